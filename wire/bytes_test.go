package wire_test

import (
	"bytes"
	"math/rand"
	"strings"
	"testing"

	"aumbry/api"
	"aumbry/wire"
)

// P27.2: the chapter's example, and known bytes.
func TestPutKnown(t *testing.T) {
	wantNote(t, api.Note{Say: api.AskList}, []byte{1})
	wantNote(t, bare(api.AskFile, "a", 1, 0), []byte("\x03\x01a\x01"))
	wantNote(t, list(), []byte{2, 0})
	wantNote(t, list(api.Held{Name: "b", Gen: 300}, api.Held{Name: "a", Gen: 1}), []byte("\x02\x02\x01b\xac\x02\x01a\x01"))
	sum := api.Sum(bytes.Repeat([]byte("s"), 32))
	wantNote(t, file(), []byte("\x04\x01a\x01\x00"))
	wantNote(t, file(api.Part{Sum: sum, Len: 512}, api.Part{Len: 1}), []byte("\x04\x01a\x01\x02"+strings.Repeat("s", 32)+"\x80\x04"+strings.Repeat("\x00", 32)+"\x01"))
	wantNote(t, bare(api.NoFile, "db", most, 0), []byte("\x05\x02db\xff\xff\xff\xff\xff\xff\xff\x0f"))
	wantNote(t, bare(api.AskChunk, "db", 2, 255), []byte("\x06\x02db\x02\xff\x01"))
	n := bare(api.TellChunk, "db", 2, 0)
	n.Bytes = []byte("xyz")
	wantNote(t, n, []byte("\x07\x02db\x02\x00\x03xyz"))
}

// P27.3 (B1): what is put is taken, what is taken is put as it was.
func TestTakeOfPut(t *testing.T) {
	r := rand.New(rand.NewSource(3))
	for i := range 4000 {
		long := 6
		if i%20 == 0 {
			long = 256
		}
		n := someNote(r, long)
		wantNote(t, n, plainPut(n))
	}
}

// P27.2: bytes that end too early, at each place.
func TestTakeShort(t *testing.T) {
	wantNoNote(t, nil, api.ErrShort)
	wantNoNote(t, []byte{}, api.ErrShort)
	for _, n := range bySay() {
		b := plainPut(n)
		for i := range b {
			wantNoNote(t, b[:i], api.ErrShort)
			wantNoNote(t, b[:i:i], api.ErrShort)
		}
	}
	// More is claimed than there is.
	wantNoNote(t, lay(2, 3, "a", 1, "b", 2), api.ErrShort)
	wantNoNote(t, lay(4, "a", 1, 2, api.Sum{5}, 7), api.ErrShort)
	wantNoNote(t, lay(4, "a", 1, 256), api.ErrShort)
}

// P27.2: a Say that is none is told where it stands, whatever is behind.
func TestTakeSay(t *testing.T) {
	for _, s := range []int{0, 8, 9, 127, 128, 257, 1 << 32, 1<<32 + 1, most} {
		for _, behind := range [][]byte{nil, {0}, {0x80, 0}, lay("a", 1), lay(65)} {
			wantNoNote(t, lay(s, behind), api.ErrForm)
		}
	}
}

// P27.2: octet's errors, in each number: the bytes ahead are right, but for what Check tells.
func TestTakeOctetErrors(t *testing.T) {
	s := api.Sum{5}
	for _, ahead := range [][]byte{
		{}, lay(2), lay(2, 1), lay(2, 1, "a"), lay(2, 2, "", 0), lay(2, 2, "a", 1, "b"),
		lay(3), lay(3, "a"), lay(3, ""), lay(5), lay(5, "a"),
		lay(4), lay(4, "a"), lay(4, "a", 1), lay(4, "", 0), lay(4, "a", 1, 1, s), lay(4, "a", 1, 2, s, 0, s),
		lay(6), lay(6, "a"), lay(6, "a", 1), lay(6, " ", 0),
		lay(7), lay(7, "a"), lay(7, "a", 1), lay(7, "a", 1, 1), lay(7, "", 0, 256),
	} {
		for num, want := range map[string]api.Errno{
			"": api.ErrShort, "\x80": api.ErrShort, "\x80\x80\x80\x80\x80\x80\x80": api.ErrShort,
			"\x80\x80\x80\x80\x80\x80\x80\x10": api.ErrLimit, "\xff\xff\xff\xff\xff\xff\xff\xff": api.ErrLimit,
			"\x80\x00": api.ErrForm, "\x85\x80\x00": api.ErrForm,
		} {
			wantNoNote(t, lay(ahead, []byte(num)), want)
			if want != api.ErrShort {
				wantNoNote(t, lay(ahead, []byte(num), bytes.Repeat([]byte{1}, 99)), want)
			}
		}
	}
}

// P27.2: more than may be is told where the number stands, ahead of what is wrong elsewhere.
func TestTakeLimits(t *testing.T) {
	for _, behind := range [][]byte{nil, {0x80, 0}, bytes.Repeat([]byte{1}, 99), make([]byte, 20000)} {
		for _, n := range []int{65, 66, 1 << 20, 1 << 31, most} {
			wantNoNote(t, lay(2, n, behind), api.ErrLimit)
		}
		for _, n := range []int{257, 258, 1 << 20, 1 << 31, most} {
			wantNoNote(t, lay(4, "a", 1, n, behind), api.ErrLimit)
			wantNoNote(t, lay(4, " ", 0, n, behind), api.ErrLimit)
		}
		for _, n := range []int{33, 34, 128, 1 << 31, most} {
			for s := 3; s <= 7; s++ {
				wantNoNote(t, lay(s, n, behind), api.ErrLimit)
			}
			wantNoNote(t, lay(2, 1, n, behind), api.ErrLimit)
			wantNoNote(t, lay(2, 2, "", 0, n, behind), api.ErrLimit)
		}
		for _, n := range []int{513, 514, 1 << 20, most} {
			wantNoNote(t, lay(7, "a", 1, 0, n, behind), api.ErrLimit)
			wantNoNote(t, lay(7, "", 0, 256, n, behind), api.ErrLimit)
		}
	}
}

// P27.2: Check's error is told behind all that is wrong with bytes, but ahead of bytes that are left.
func TestTakeWrong(t *testing.T) {
	s := api.Sum{5}
	for _, bad := range [][]byte{
		lay(2, 1, "", 1), lay(2, 1, "a b", 1), lay(2, 1, "a", 0), lay(2, 2, "", 0, "a", 1), lay(2, 2, "a", 1, "a", 0),
		lay(3, "", 1), lay(3, "é", 1), lay(3, "a", 0), lay(5, "", 1), lay(5, "a", 0),
		lay(4, "", 1, 0), lay(4, "a", 0, 0), lay(4, "a", 1, 1, s, 0), lay(4, "a", 1, 1, s, 513), lay(4, "a", 1, 2, s, 0, s, 1), lay(4, "a", 1, 2, s, 1, s, most),
		lay(6, "", 1, 0), lay(6, "a", 0, 0), lay(6, "a", 1, 256), lay(6, "a", 1, most),
		lay(7, "", 1, 0, "x"), lay(7, "a", 0, 0, "x"), lay(7, "a", 1, 256, "x"), lay(7, "a", 1, most, "x"), lay(7, "a", 1, 0, ""),
	} {
		wantNoNote(t, bad, api.ErrArg)
		for _, more := range [][]byte{{0}, {0x80, 0}, bad} {
			wantNoNote(t, lay(bad, more), api.ErrArg)
		}
		wantNoNote(t, bad[:len(bad)-1], api.ErrShort)
	}
}

// P27.2: bytes that are left.
func TestTakeLeft(t *testing.T) {
	for _, n := range bySay() {
		b := plainPut(n)
		for _, more := range [][]byte{{0}, {255}, {0x80, 0}, b} {
			wantNoNote(t, lay(b, more), api.ErrForm)
		}
	}
}

// someBytes is a note's bytes, most of them spoilt.
func someBytes(r *rand.Rand) []byte {
	b := plainPut(someNote(r, 3))
	switch r.Intn(5) {
	case 0:
		b = b[:r.Intn(len(b)+1)]
	case 1:
		b = append(b, byte(r.Intn(256)))
	case 2:
		b[0] = byte(r.Intn(10))
	}
	for range r.Intn(3) {
		if len(b) > 0 {
			b[r.Intn(len(b))] = byte(r.Intn(256) >> r.Intn(8))
		}
	}
	return b
}

// P27.2, P27.3, P1: bytes of any kind, against the chapter's words.
func TestTakeAny(t *testing.T) {
	r := rand.New(rand.NewSource(4))
	met := map[api.Errno]int{}
	for range 100000 {
		b := someBytes(r)
		want, e := plainTake(b)
		met[e]++
		if e != api.OK {
			wantNoNote(t, b, e)
			continue
		}
		wantNote(t, want, b)
	}
	for _, e := range []api.Errno{api.OK, api.ErrShort, api.ErrForm, api.ErrArg, api.ErrLimit} {
		if met[e] < 1000 {
			t.Error("met", met)
		}
	}
}

// P27.2, P1: all texts of two bytes, and of one.
func TestTakeBrief(t *testing.T) {
	for i := range 1 << 16 {
		b := []byte{byte(i), byte(i >> 8)}
		for _, b := range [][]byte{b, b[:1]} {
			want, e := plainTake(b)
			if got, gotE := wire.Take(b); gotE != e || !sameNote(got, want) {
				t.Fatalf("Take(% x): %+v, %d; want %+v, %d", b, got, gotE, want, e)
			}
		}
	}
}
