package tape_test

import (
	"bytes"
	"math"
	"math/rand"
	"slices"
	"strings"
	"testing"

	"aumbry/api"
	"aumbry/tape"
)

// wantStream: entries have that stream, and are told by it.
func wantStream(t *testing.T, l []api.Entry, want []byte) {
	t.Helper()
	if b, e := tape.Stream(l); e != api.OK || !bytes.Equal(b, want) {
		t.Fatalf("Stream of %d entries: %s, %d; want %s", len(l), brief(b), e, brief(want))
	}
	wantEntries(t, want, l)
}

func wantNoStream(t *testing.T, l []api.Entry, want api.Errno) {
	t.Helper()
	if b, e := tape.Stream(l); e != want || len(b) != 0 {
		t.Fatalf("Stream of %d entries: %s, %d; want %d", len(l), brief(b), e, want)
	}
}

func wantEntries(t *testing.T, b []byte, want []api.Entry) {
	t.Helper()
	if l, e := tape.Entries(b); e != api.OK || !sameEntries(l, want) {
		t.Fatalf("Entries(%s): %v, %d; want %v", brief(b), l, e, want)
	}
}

func wantNoEntries(t *testing.T, b []byte, want api.Errno) {
	t.Helper()
	if l, e := tape.Entries(b); e != want || len(l) != 0 {
		t.Fatalf("Entries(%s): %d entries, %d; want %d", brief(b), len(l), e, want)
	}
}

// many is the same thing, n times.
func many[T any](n int, x T) []T { return slices.Repeat([]T{x}, n) }

// P26.2: the chapter's example, and known bytes.
func TestStreamKnown(t *testing.T) {
	wantStream(t, nil, []byte{0})
	wantStream(t, []api.Entry{}, []byte{0})
	a := api.Entry{Name: "a", Gen: 1}
	wantStream(t, []api.Entry{a}, []byte("\x01\x01a\x01\x00\x01\x00"))
	wantStream(t, []api.Entry{a, a}, []byte("\x02\x01a\x01\x00\x01\x00\x01a\x01\x00\x01\x00"))
	db := api.Entry{Name: "db", Gen: 300, Time: 128, Bytes: []byte("ab")}
	wantStream(t, []api.Entry{db}, []byte("\x01\x02db\xac\x02\x80\x01\x03\x00ab"))
	log := api.Entry{Name: "~!", Gen: 2, Time: 9, Bytes: []byte("aaaaaaaa")}
	wantStream(t, []api.Entry{log, a, db}, []byte("\x03\x02~!\x02\x09\x05\x01\x00a\x83\x01\x01a\x01\x00\x01\x00\x02db\xac\x02\x80\x01\x03\x00ab"))
	name := strings.Repeat("n", 32)
	last := api.Entry{Name: name, Gen: api.MaxNum, Time: api.MaxNum, Bytes: []byte{7}}
	wantStream(t, []api.Entry{last}, []byte("\x01\x20"+name+"\xff\xff\xff\xff\xff\xff\xff\x0f\xff\xff\xff\xff\xff\xff\xff\x0f\x02\x00\x07"))
}

// P26.2, B1: entries of all kinds, against the chapter's words.
func TestStreamAny(t *testing.T) {
	r := rand.New(rand.NewSource(10))
	for range 300 {
		l := someEntries(r, r.Intn(8))
		want, e := plainStream(l)
		if e != api.OK {
			t.Fatal(e)
		}
		wantStream(t, l, want)
	}
}

// wrongEntries are entries of which one part is not right, at its edges.
func wrongEntries() []api.Entry {
	var l []api.Entry
	for _, name := range []string{"", " ", "a b", "a ", "\x7f", "a\x00", "\x80", "é", strings.Repeat("n", 33), strings.Repeat("n", 5000)} {
		l = append(l, api.Entry{Name: name, Gen: 1})
	}
	for _, gen := range []int{0, -1, math.MinInt, api.MaxNum + 1, math.MaxInt} {
		l = append(l, api.Entry{Name: "a", Gen: gen})
	}
	for _, time := range []int{-1, math.MinInt, api.MaxNum + 1, math.MaxInt} {
		l = append(l, api.Entry{Name: "a", Gen: 1, Time: time})
	}
	return l
}

// P26.2: entries that are not right, wherever they stand, ahead of Pack's error, wherever that is.
func TestStreamWrong(t *testing.T) {
	ok := api.Entry{Name: "a", Gen: 1, Bytes: []byte("ok")}
	long := api.Entry{Name: "a", Gen: 1, Bytes: make([]byte, 8193)}
	for _, bad := range wrongEntries() {
		wantNoStream(t, []api.Entry{bad}, api.ErrArg)
		wantNoStream(t, []api.Entry{ok, bad}, api.ErrArg)
		wantNoStream(t, []api.Entry{bad, ok}, api.ErrArg)
		wantNoStream(t, append(many(199, ok), bad), api.ErrArg)
		wantNoStream(t, []api.Entry{bad, long}, api.ErrArg)
		wantNoStream(t, []api.Entry{long, bad}, api.ErrArg)
		bad.Bytes = long.Bytes
		wantNoStream(t, []api.Entry{bad}, api.ErrArg)
		wantNoStream(t, append(many(200, ok), bad), api.ErrLimit)
		wantNoStream(t, many(201, bad), api.ErrLimit)
	}
	wantNoStream(t, []api.Entry{long}, api.ErrLimit)
	wantNoStream(t, []api.Entry{ok, long, ok}, api.ErrLimit)
}

// P26.2: as many entries as there may be, and one more.
func TestStreamMany(t *testing.T) {
	a := api.Entry{Name: "a", Gen: 1}
	for _, n := range []int{127, 128, 199, 200} {
		l := many(n, a)
		wantStream(t, l, lay(n, bytes.Repeat([]byte("\x01a\x01\x00\x01\x00"), n)))
	}
	for _, n := range []int{201, 202, 5000} {
		wantNoStream(t, many(n, a), api.ErrLimit)
	}
}

// P26.2: as many bytes as there may be, and one more.
func TestStreamLong(t *testing.T) {
	r := rand.New(rand.NewSource(11))
	// A count; of each of four a name of a byte, two numbers, a length of two bytes, and a byte that names the way.
	left := 32768 - 1 - 4*(2+1+1+2+1)
	l := make([]api.Entry, 4)
	for i := range l {
		n := min(left, 8192)
		l[i] = api.Entry{Name: "a", Gen: 1, Bytes: noise(r, n)}
		left -= n
	}
	want, e := plainStream(l)
	if e != api.OK || len(want) != 32768 {
		t.Fatal(len(want), e)
	}
	wantStream(t, l, want)
	for i := range l {
		more := slices.Clone(l)
		more[i].Name = "ab"
		wantNoStream(t, more, api.ErrLimit)
	}
	wantNoStream(t, append(l, l[0]), api.ErrLimit)
	wantNoStream(t, append(l, api.Entry{Name: "a"}), api.ErrArg)
	l[3].Gen = 128
	wantNoStream(t, l, api.ErrLimit)
	wantNoStream(t, many(200, l[0]), api.ErrLimit)
}

// entryParts are the parts of a right entry's bytes.
func entryParts() [][]byte {
	return [][]byte{lay("db"), lay(300), lay(128), lay(string(lay([]byte{0}, []byte("ab"))))}
}

// P26.2: bytes that end too early, at each place.
func TestEntriesShort(t *testing.T) {
	l := []api.Entry{{Name: "db", Gen: 300, Time: 128, Bytes: []byte("ab")}, {Name: "x", Gen: 1, Bytes: []byte("aaaaaaaa")}}
	b, _ := tape.Stream(l)
	for n := range b {
		wantNoEntries(t, b[:n], api.ErrShort)
		wantNoEntries(t, b[:n:n], api.ErrShort)
	}
	wantNoEntries(t, nil, api.ErrShort)
	for _, n := range []byte{3, 127} {
		wantNoEntries(t, lay([]byte{n}, b[1:]), api.ErrShort)
	}
}

// P26.2: octet's errors in each part.
func TestEntriesOctet(t *testing.T) {
	for num, want := range map[string]api.Errno{
		"\x80\x80\x80\x80\x80\x80\x80\x10": api.ErrLimit,
		"\xff\xff\xff\xff\xff\xff\xff\xff": api.ErrLimit,
		"\x80\x00":                         api.ErrForm,
		"\x85\x80\x00":                     api.ErrForm,
	} {
		wantNoEntries(t, []byte(num), want)
		wantNoEntries(t, lay([]byte(num), make([]byte, 300)), want)
		for _, ahead := range [][]byte{lay(1), lay(2, bytes.Join(entryParts(), nil))} {
			for i := range entryParts() {
				b := lay(ahead, bytes.Join(entryParts()[:i], nil), []byte(num))
				wantNoEntries(t, b, want)
				wantNoEntries(t, lay(b, make([]byte, 300)), want)
			}
		}
	}
}

// P26.2: more than may be, told where it stands.
func TestEntriesLimits(t *testing.T) {
	one := []byte("\x01a\x01\x00\x01\x00")
	wantEntries(t, lay(200, bytes.Repeat(one, 200)), many(200, api.Entry{Name: "a", Gen: 1}))
	for _, n := range []int{201, 1 << 20, 1 << 31, api.MaxNum} {
		for _, behind := range [][]byte{nil, {0x80, 0}, {0}, bytes.Repeat(one, 201)} {
			wantNoEntries(t, lay(n, behind), api.ErrLimit)
		}
	}
	for _, behind := range [][]byte{nil, {0x80, 0}, {0}, bytes.Repeat(one, 2000)} {
		for _, n := range []int{33, 34, 200, api.MaxNum} {
			wantNoEntries(t, lay(1, n, behind), api.ErrLimit)
		}
		for _, n := range []int{8194, 8195, 1 << 20, api.MaxNum} {
			wantNoEntries(t, lay(1, "a", 1, 0, n, behind), api.ErrLimit)
			// Ahead of what is wrong with the entry.
			wantNoEntries(t, lay(1, "", 0, 0, n, behind), api.ErrLimit)
		}
	}
	r := rand.New(rand.NewSource(12))
	p := noise(r, 8192)
	wantEntries(t, lay(1, "a", 1, 0, string(lay([]byte{0}, p))), []api.Entry{{Name: "a", Gen: 1, Bytes: p}})
	// What is told may have more bytes than a stream that is written.
	long := lay(many[any](200, lay("a", 1, 0, string(lay([]byte{0}, p))))...)
	wantEntries(t, lay(200, long), many(200, api.Entry{Name: "a", Gen: 1, Bytes: p}))
}

// P26.2: what is wrong with an entry is told behind its bytes' faults, and ahead of Unpack's error, and of all that stands behind.
func TestEntriesWrong(t *testing.T) {
	for _, bad := range wrongEntries() {
		if len(bad.Name) > 32 || bad.Gen < 0 || bad.Gen > api.MaxNum || bad.Time < 0 || bad.Time > api.MaxNum {
			continue
		}
		for _, packed := range []string{"\x00", "", "\x04", "\x01\x00"} {
			b := lay(bad.Name, bad.Gen, bad.Time, packed)
			wantNoEntries(t, lay(1, b), api.ErrArg)
			wantNoEntries(t, lay(1, b, 0), api.ErrArg)
			wantNoEntries(t, lay(2, b), api.ErrArg)
			wantNoEntries(t, lay(2, b, []byte{0x80, 0}), api.ErrArg)
			wantNoEntries(t, lay(2, "a", 1, 0, "\x00", b), api.ErrArg)
			wantNoEntries(t, lay(2, "a", 1, 0, "\x05", b), api.ErrForm)
			wantNoEntries(t, lay(2, "a", 1, 0, "", b), api.ErrShort)
			wantNoEntries(t, lay(1, b[:len(b)-1]), api.ErrShort)
		}
		wantNoEntries(t, lay(1, bad.Name, bad.Gen, []byte{0x80, 0}), api.ErrForm)
		wantNoEntries(t, lay(1, bad.Name, bad.Gen, bad.Time, []byte{0x80, 0}), api.ErrForm)
	}
	wantNoEntries(t, lay(1, "a b", []byte{0x80, 0}), api.ErrForm)
}

// P26.2: Unpack's error, ahead of all that stands behind the entry.
func TestEntriesUnpack(t *testing.T) {
	for packed, want := range map[string]api.Errno{
		"": api.ErrShort, "\x04": api.ErrForm, "\x01\x00": api.ErrShort, "\x01\x80\x01": api.ErrArg, "\x02\x81\x00": api.ErrForm, "\x02\x81\x40": api.ErrLimit,
	} {
		b := lay("a", 1, 0, packed)
		for _, behind := range [][]byte{nil, {0}, {0x80, 0}, lay("", 0, 0, "\x00"), lay("a", 1, 0, "\x00")} {
			wantNoEntries(t, lay(1, b, behind), want)
			wantNoEntries(t, lay(2, b, behind), want)
		}
		wantNoEntries(t, lay(2, "a", 1, 0, "\x00", b), want)
	}
	// A way that is not the shortest is a way.
	wantEntries(t, lay(1, "a", 1, 0, "\x01\x01ab"), []api.Entry{{Name: "a", Gen: 1, Bytes: []byte("ab")}})
}

// P26.2: bytes that are left.
func TestEntriesLeft(t *testing.T) {
	for _, more := range [][]byte{{0}, {255}, {0x80, 0}, lay("a", 1, 0, "\x00")} {
		wantNoEntries(t, lay(0, more), api.ErrForm)
		wantNoEntries(t, lay(1, "a", 1, 0, "\x00", more), api.ErrForm)
	}
}

// P26.2, P1: bytes of any kind, against the chapter's words.
func TestEntriesAny(t *testing.T) {
	r := rand.New(rand.NewSource(13))
	met := map[api.Errno]int{}
	for range 20000 {
		l := someEntries(r, r.Intn(3))
		for i := range l {
			l[i].Bytes = l[i].Bytes[:min(len(l[i].Bytes), 40)]
		}
		b, _ := plainStream(l)
		switch r.Intn(5) {
		case 0:
			b = b[:r.Intn(len(b)+1)]
		case 1:
			b = append(b, byte(r.Intn(256)))
		}
		for range r.Intn(3) {
			if len(b) > 0 {
				b[r.Intn(min(len(b), 1+r.Intn(80)))] = byte(r.Intn(256) >> r.Intn(8))
			}
		}
		got, e := tape.Entries(b)
		want, wantE := plainEntries(b)
		if e != wantE || !sameEntries(got, want) {
			t.Fatalf("Entries(% x): %v, %d; want %v, %d", b, got, e, want, wantE)
		}
		met[e]++
	}
	for _, e := range []api.Errno{api.OK, api.ErrShort, api.ErrForm, api.ErrArg, api.ErrLimit} {
		if met[e] < 100 {
			t.Error("met", met)
		}
	}
}

// P3: what is handed in stays, and is not kept; what is answered is new memory.
func TestStreamMemory(t *testing.T) {
	r := rand.New(rand.NewSource(14))
	for range 50 {
		l := someEntries(r, 1+r.Intn(5))
		want, _ := plainStream(l)
		in, sameList := roomy(t, l, sameEntry, api.Entry{Name: "spare"})
		var same []func()
		for i := range in {
			var check func()
			in[i].Bytes, check = roomy(t, in[i].Bytes, sameByte, 77)
			same = append(same, check)
		}
		b, _ := tape.Stream(in)
		again, _ := tape.Stream(in)
		spoil(again)
		sameList()
		for i := range in {
			same[i]()
			spoil(in[i].Bytes)
		}
		if !bytes.Equal(b, want) {
			t.Fatal("the stream lies in what was handed in, or answered")
		}
		from, sameBytes := roomy(t, want, sameByte, 77)
		got, _ := tape.Entries(from)
		other, _ := tape.Entries(from)
		for _, x := range other {
			spoil(x.Bytes)
		}
		sameBytes()
		for i, x := range got {
			if i > 0 {
				spoil(got[i-1].Bytes)
			}
			spoil(from)
			if clean, _ := plainEntries(want); !sameEntry(x, clean[i]) {
				t.Fatal("an entry lies in another one, or in what was handed in")
			}
		}
	}
}
