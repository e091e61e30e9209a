package code_test

import (
	"bytes"
	"fmt"
	"math"
	"math/rand"
	"slices"
	"strings"
	"testing"

	"aumbry/api"
	"aumbry/code"
)

func join(parts ...[]byte) []byte { return slices.Concat(parts...) }

// brief is bytes, if they are few enough to be shown.
func brief(b []byte) string {
	if len(b) > 60 {
		return fmt.Sprintf("% x .. (%d)", b[:60], len(b))
	}
	return fmt.Sprintf("% x", b)
}

func put(t *testing.T, p []byte) []byte {
	t.Helper()
	b, e := code.Put(p)
	if e != api.OK {
		t.Fatalf("Put(%s): %d", brief(p), e)
	}
	return b
}

// wantPut: it is said so, and taken back.
func wantPut(t *testing.T, p, want []byte) {
	t.Helper()
	if b := put(t, p); !bytes.Equal(b, want) {
		t.Fatalf("Put(%s): %s; want %s", brief(p), brief(b), brief(want))
	}
	wantTake(t, want, len(p), p)
}

func wantTake(t *testing.T, b []byte, most int, want []byte) {
	t.Helper()
	if p, e := code.Take(b, most); e != api.OK || !bytes.Equal(p, want) {
		t.Fatalf("Take(%s, %d): %s, %d; want %s", brief(b), most, brief(p), e, brief(want))
	}
}

func wantNotTaken(t *testing.T, b []byte, most int, want api.Errno) {
	t.Helper()
	if p, e := code.Take(b, most); e != want || len(p) != 0 {
		t.Fatalf("Take(%s, %d): %s, %d; want %d", brief(b), most, brief(p), e, want)
	}
}

// P25.3
func TestPut(t *testing.T) {
	for p, want := range map[string]string{
		"":         "\x00\x00",
		"a":        "\x01\x01a\x01\x00",
		"aab":      "\x03\x02a\x01b\x01\x20",
		"ba":       "\x02\x02a\x01b\x01\x80",
		"aaaaaaaa": "\x08\x01a\x01\x00",
		"\xff":     "\x01\x01\xff\x01\x00",
		"abacabad": "\x08\x04a\x01b\x02c\x03d\x03\x4c\x9c", // 0 10 0 110 0 10 0 111
	} {
		wantPut(t, []byte(p), []byte(want))
	}
	wantPut(t, nil, []byte{0, 0})
}

// P25.3: all bytes there are, and as many as may be.
func TestPutMost(t *testing.T) {
	var every []byte
	for c := range 256 {
		every = append(every, byte(255-c))
	}
	b := put(t, every)
	if len(b) != 2+2+512+256 || !bytes.HasPrefix(b, []byte{0x80, 2, 0x80, 2, 0, 8, 1, 8, 2, 8}) || !bytes.HasSuffix(b, every) {
		t.Fatal(brief(b))
	}
	wantTake(t, b, 256, every)
	full := bytes.Repeat(every, 32)
	wantPut(t, full, plainPut(full))
	wantPut(t, make([]byte, 8192), join([]byte{0x80, 0x40, 1, 0, 1}, make([]byte, 1024)))
	wantPut(t, make([]byte, 8191), join([]byte{0xff, 0x3f, 1, 0, 1}, make([]byte, 1024)))
	wantPut(t, make([]byte, 8185), join([]byte{0xf9, 0x3f, 1, 0, 1}, make([]byte, 1024)))
	wantPut(t, make([]byte, 8184), join([]byte{0xf8, 0x3f, 1, 0, 1}, make([]byte, 1023)))
	for _, n := range []int{8193, 8194, 1 << 20} {
		if b, e := code.Put(make([]byte, n)); e != api.ErrLimit || len(b) != 0 {
			t.Errorf("%d: %s, %d", n, brief(b), e)
		}
	}
}

// P25.3, P25.5 (B1)
func TestPutAny(t *testing.T) {
	r := rand.New(rand.NewSource(6))
	for i := range 1500 {
		n := r.Intn(200)
		if i%100 == 0 {
			n = 8192 - r.Intn(9)
		}
		p := text(r, n, 1+r.Intn(256))
		wantPut(t, p, plainPut(p))
		wantTake(t, put(t, p), math.MaxInt, p)
	}
}

// P25.5: words as long as bytes can have them.
func TestPutLong(t *testing.T) {
	var p []byte
	a, b := 1, 1
	for c := 0; len(p)+a <= 8192; c++ {
		p = append(p, bytes.Repeat([]byte{byte(c)}, a)...)
		a, b = b, a+b
	}
	wantPut(t, p, plainPut(p))
}

// said is what Take may be given: so many bytes, a table, and bits.
func said(size int, rows string, bits string) []byte {
	return join(num(size), num(len(rows)/2), []byte(rows), packed(bits))
}

// P25.4: tables that Put does not tell, but for which there are words.
func TestTake(t *testing.T) {
	wantTake(t, []byte{0, 0}, 0, nil)
	wantTake(t, []byte{0, 0}, 5, nil)
	wantTake(t, said(3, "a\x02b\x02", "000100"), 3, []byte("aba"))
	wantTake(t, said(4, "a\x01b\x03z\x02", "0011010"), 4, []byte("aabz"))
	wantTake(t, said(2, "a\x3c", strings.Repeat("0", 120)), 2, []byte("aa"))
	wantTake(t, said(2, "\x00\x01\xff\x3c", "1"+strings.Repeat("0", 60)), 2, []byte{255, 0})
	wantTake(t, said(8192, "a\x3c", strings.Repeat("0", 8192*60)), 8192, bytes.Repeat([]byte("a"), 8192))
}

// P25.4: the number of bytes, and octet's errors at both numbers.
func TestTakeNumbers(t *testing.T) {
	for _, c := range []struct {
		num  []byte
		want api.Errno
	}{
		{nil, api.ErrShort}, {[]byte{0x80}, api.ErrShort}, {bytes.Repeat([]byte{0x80}, 7), api.ErrShort},
		{[]byte{0x80, 0}, api.ErrForm}, {[]byte{0x83, 0, 1}, api.ErrForm},
		{append(bytes.Repeat([]byte{0x80}, 7), 16), api.ErrLimit}, {bytes.Repeat([]byte{0xff}, 9), api.ErrLimit},
	} {
		for _, most := range []int{math.MinInt, -1, 0, 3, math.MaxInt} {
			wantNotTaken(t, c.num, most, c.want)
		}
		for _, most := range []int{3, 4, math.MaxInt} {
			wantNotTaken(t, join([]byte{3}, c.num), most, c.want)
			wantNotTaken(t, join([]byte{0}, c.num), most, c.want)
		}
		// From the left: the first number is too great.
		wantNotTaken(t, join([]byte{3}, c.num), 2, api.ErrLimit)
	}
}

// P25.4: more bytes than may be.
func TestTakeLimit(t *testing.T) {
	b := put(t, []byte("aab"))
	for _, most := range []int{math.MinInt, -1, 0, 1, 2} {
		wantNotTaken(t, b, most, api.ErrLimit)
		wantNotTaken(t, b[:1], most, api.ErrLimit)
		wantNotTaken(t, []byte{3, 0}, most, api.ErrLimit)
	}
	for _, most := range []int{3, 4, 8192, 8193, math.MaxInt} {
		wantTake(t, b, most, []byte("aab"))
	}
	wantNotTaken(t, []byte{0, 0}, -1, api.ErrLimit)
	wantNotTaken(t, []byte{0, 0}, math.MinInt, api.ErrLimit)
	wantNotTaken(t, said(8193, "a\x01", strings.Repeat("0", 8193)), math.MaxInt, api.ErrLimit)
	wantNotTaken(t, said(8193, "a\x01", strings.Repeat("0", 8193)), 8193, api.ErrLimit)
	wantNotTaken(t, said(8192, "a\x01", strings.Repeat("0", 8192)), 8191, api.ErrLimit)
	wantTake(t, said(8192, "a\x01", strings.Repeat("0", 8192)), 8192, bytes.Repeat([]byte("a"), 8192))
	wantNotTaken(t, join(num(api.MaxNum), []byte{1, 'a', 1, 0}), math.MaxInt, api.ErrLimit)
}

// P25.4: how many bytes are in it.
func TestTakeHowMany(t *testing.T) {
	var rows []byte
	for c := range 256 {
		rows = append(rows, byte(c), 8)
	}
	wantTake(t, join([]byte{1}, num(256), rows, []byte{7}), 9, []byte{7})
	for _, n := range []int{0, 257, 258, 1 << 16, api.MaxNum} {
		wantNotTaken(t, join([]byte{1}, num(n)), 9, api.ErrForm)
		wantNotTaken(t, join([]byte{1}, num(n), rows, rows, []byte{7}), 9, api.ErrForm)
	}
	for _, n := range []int{1, 2, 256, 257, api.MaxNum} {
		wantNotTaken(t, join([]byte{0}, num(n)), 9, api.ErrForm)
		wantNotTaken(t, join([]byte{0}, num(n), rows), 9, api.ErrForm)
	}
	wantNotTaken(t, []byte{0, 1, 'a', 1}, 9, api.ErrForm)
}

// P25.4: a table that ends too early, behind rows against which nothing stands.
func TestTakeShortTable(t *testing.T) {
	whole := said(3, "a\x02b\x02c\x01", "")
	for n := 2; n < len(whole); n++ {
		wantNotTaken(t, whole[:n], 9, api.ErrShort)
	}
	for _, b := range []string{"\x03\x02a\x3d", "\x03\x03a\x01b\x01c", "\x03\x80\x02"} {
		wantNotTaken(t, []byte(b), 9, api.ErrShort)
	}
	// Spare room behind the end is not read.
	wantNotTaken(t, said(1, "a\x01", "0")[:3], 9, api.ErrShort)
}

// P25.4: bytes that do not rise, behind rows against which nothing stands.
func TestTakeNotRising(t *testing.T) {
	for _, rows := range []string{"a\x01a\x01", "b\x01a\x01", "a\x3db\x01b\x01", "a\x02c\x02b\x02", "a\x01b\x01c\x01c\x01", "\xff\x01\x00\x01", "\x00\x01\x00\x01"} {
		wantNotTaken(t, said(2, rows, "0000"), 9, api.ErrForm)
		wantNotTaken(t, said(2, rows, ""), 9, api.ErrForm)
	}
	wantTake(t, said(1, "\x00\x01\xff\x01", "1"), 9, []byte{255})
	wantTake(t, said(1, "\x7f\x01\x80\x01", "1"), 9, []byte{128})
}

// P25.4: from the left: of two rows that are wrong the first one is told; in one row the errors come in the order in which they are named.
func TestTakeTableFromTheLeft(t *testing.T) {
	for _, c := range []struct {
		rows int
		b    string
		want api.Errno
	}{
		// A length 0 stands ahead of a table's end, and of a byte that does not rise.
		{2, "a\x00", api.ErrArg}, {2, "a\x00b", api.ErrArg}, {3, "a\x01b\x00", api.ErrArg}, {256, "\x00\x00", api.ErrArg},
		{2, "b\x00a\x01", api.ErrArg}, {2, "a\x00a\x01", api.ErrArg}, {2, "b\x00a\x00", api.ErrArg}, {3, "a\x01c\x00b\x01", api.ErrArg},
		{3, "b\x00a\x01", api.ErrArg}, {3, "b\x00a\x00", api.ErrArg}, {3, "b\x00a", api.ErrArg},
		// A byte that does not rise stands ahead of a table's end, and of a length 0.
		{3, "b\x01a\x01", api.ErrForm}, {3, "b\x01a\x01c", api.ErrForm}, {256, "a\x01a\x01", api.ErrForm},
		{3, "b\x01a\x01c\x00", api.ErrForm}, {4, "b\x01a\x01c\x00", api.ErrForm},
		// One row is wrong in two ways.
		{1, "a", api.ErrShort}, {2, "b\x01a", api.ErrShort}, {2, "a\x01a", api.ErrShort}, {3, "a\x01c\x01b", api.ErrShort},
		{2, "b\x01a\x00", api.ErrForm}, {2, "a\x01a\x00", api.ErrForm}, {3, "b\x01a\x00", api.ErrForm},
		// Lengths for which there are no words come behind the whole table.
		{2, "a\x3d", api.ErrShort}, {2, "a\xffb", api.ErrShort}, {2, "b\x3da\x01", api.ErrForm}, {2, "b\xffb\x01", api.ErrForm},
		{4, "a\x01b\x01c\x01", api.ErrShort}, {4, "a\x01b\x01d\x01c\x01", api.ErrForm},
		{2, "a\x3db\x00", api.ErrArg},
	} {
		wantNotTaken(t, join(num(2), num(c.rows), []byte(c.b)), 9, c.want)
	}
}

// P25.4: lengths for which there are no words.
func TestTakeNoWords(t *testing.T) {
	for _, rows := range []string{"a\x00", "a\x01b\x00", "a\x00b\x01", "a\x3d", "a\xff", "a\x01b\x3d", "a\x01b\x01c\x01", "a\x01b\x01c\x3c", "a\x01b\x02c\x02d\x02"} {
		wantNotTaken(t, said(2, rows, "0000"), 9, api.ErrArg)
		wantNotTaken(t, said(2, rows, ""), 9, api.ErrArg)
	}
	var every []byte
	for c := range 256 {
		every = append(every, byte(c), 1)
	}
	wantNotTaken(t, said(2, string(every), "00"), 9, api.ErrArg)
}

// P25.4: bits that end, and bits with which no word begins.
func TestTakeWords(t *testing.T) {
	for _, c := range []struct {
		size       int
		rows, bits string
		want       api.Errno
	}{
		{1, "a\x01", "", api.ErrShort},
		{1, "a\x09", "00000000", api.ErrShort},
		{9, "a\x01", "00000000", api.ErrShort},
		{9, "a\x01b\x01", "01010101", api.ErrShort},
		{5, "a\x01b\x02c\x02", "0101011" + "1", api.ErrShort},
		{1, "a\x3c", "", api.ErrShort},
		{2, "a\x01b\x3c", "01" + strings.Repeat("0", 54), api.ErrShort},
		{1, "a\x01", "1", api.ErrForm},
		{2, "a\x01", "01", api.ErrForm},
		{1, "a\x02", "01", api.ErrForm},
		{1, "a\x02b\x02", "10", api.ErrForm},
		{1, "a\x02b\x02c\x02", "11", api.ErrForm},
		{1, "a\x0a", "00000001", api.ErrForm},
		{7, "a\x01b\x09", "00000010", api.ErrShort},
		{2, "a\x01b\x09", "00000010", api.ErrForm},
		{8, "a\x01b\x09", "00000011", api.ErrForm},
		{9, "a\x01b\x09", "0000000011111111", api.ErrForm},
	} {
		wantNotTaken(t, said(c.size, c.rows, c.bits), 99, c.want)
	}
}

// P25.4: what is left behind the last word.
func TestTakeLeft(t *testing.T) {
	for n := 1; n <= 8; n++ {
		bits := strings.Repeat("0", n)
		wantTake(t, said(n, "a\x01b\x01", bits), 9, bytes.Repeat([]byte("a"), n))
		for at := n; at < 8; at++ {
			wantNotTaken(t, said(n, "a\x01b\x01", strings.Repeat("0", at)+"1"), 9, api.ErrForm)
		}
		for _, more := range []string{"\x00", "\x01", "\x80", "\x00\x00", "xyz"} {
			wantNotTaken(t, join(said(n, "a\x01b\x01", bits), []byte(more)), 9, api.ErrForm)
		}
	}
	for _, more := range []string{"\x00", "\x80", "\x01\x00", "\x00\x00"} {
		wantNotTaken(t, join([]byte{0, 0}, []byte(more)), 9, api.ErrForm)
	}
	// Spare room behind the end is not read.
	room := join(said(3, "a\x01b\x01", "001"), []byte{1})
	wantTake(t, room[:len(room)-1], 9, []byte("aab"))
}

// P25.4, P1: any bytes, against the chapter's words.
func TestTakeAny(t *testing.T) {
	r := rand.New(rand.NewSource(7))
	met := map[api.Errno]int{}
	for i := range 40000 {
		b := text(r, r.Intn(14), 256)
		switch i % 4 {
		case 1, 2:
			b = put(t, text(r, r.Intn(40), 1+r.Intn(20)))
			for range r.Intn(3) {
				b[r.Intn(len(b))] = byte(r.Intn(256) >> r.Intn(8))
			}
			b = b[:len(b)-min(r.Intn(3)*r.Intn(2), len(b))]
		case 3:
			b = anySaid(r)
		}
		most := r.Intn(60) - 2
		want, errno := plainTake(b, most)
		met[errno]++
		if errno != api.OK {
			wantNotTaken(t, b, most, errno)
		} else {
			wantTake(t, b, most, want)
		}
	}
	for _, e := range []api.Errno{api.OK, api.ErrShort, api.ErrArg, api.ErrLimit, api.ErrForm} {
		if met[e] < 1000 {
			t.Error(e, met[e])
		}
	}
}

// anySaid is any bits behind a table for which there are words.
func anySaid(r *rand.Rand) []byte {
	var rows []byte
	for c, l := range someLengths(r) {
		if l > 0 {
			rows = append(rows, byte(c), byte(l))
		}
	}
	return join(num(r.Intn(20)), num(len(rows)/2), rows, text(r, r.Intn(12), 256))
}

// P3: what is handed in stays as it is, spare room behind it too; what is told is new memory.
func TestMemory(t *testing.T) {
	for _, p := range []string{"", "a", "aab", "she sells sea shells"} {
		room := join([]byte(p), []byte("room"))
		b := put(t, room[:len(p)])
		kept := slices.Clone(b)
		if string(room) != p+"room" {
			t.Fatal("what is handed in is changed")
		}
		clear(room)
		if !bytes.Equal(b, kept) {
			t.Fatal("an answer lies in what was handed in")
		}
		wide := join(b, []byte("room"))
		first, _ := code.Take(wide[:len(b)], 1000)
		second, _ := code.Take(wide[:len(b)], 1000)
		if !bytes.Equal(wide, join(kept, []byte("room"))) {
			t.Fatal("what is handed in is changed")
		}
		clear(first[:cap(first)])
		clear(wide)
		if string(second) != p {
			t.Fatal("an answer lies in other memory")
		}
	}
}
