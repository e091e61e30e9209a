package octet_test

import (
	"bytes"
	"encoding/binary"
	"math"
	"math/rand"
	"slices"
	"testing"

	"aumbry/api"
	"aumbry/octet"
)

// The signatures that the chapter lists.
var (
	_ func(int) ([]byte, api.Errno)                   = octet.Num
	_ func([]byte, int) (int, int, api.Errno)         = octet.TakeNum
	_ func(int, int) ([]byte, api.Errno)              = octet.Fixed
	_ func([]byte, int, int) (int, int, api.Errno)    = octet.TakeFixed
	_ func([]byte, int) ([]byte, api.Errno)           = octet.Text
	_ func([]byte, int, int) ([]byte, int, api.Errno) = octet.TakeText
	_ func([]byte) *octet.Reader                      = octet.Read
)

// edges are numbers within the limits: both ends, all powers of two, and their neighbours.
func edges() []int {
	l := []int{0, api.MaxNum}
	for i := range 53 {
		l = append(l, 1<<i-1, 1<<i, 1<<i+1)
	}
	l = slices.DeleteFunc(l, func(n int) bool { return n > api.MaxNum })
	r := rand.New(rand.NewSource(1))
	for i := range 500 {
		l = append(l, r.Intn(1<<(1+i%53)))
	}
	return l
}

// beyond are numbers without the limits.
func beyond() []int {
	return []int{-1, -2, -128, math.MinInt, math.MinInt + 1, api.MaxNum + 1, api.MaxNum + 2, 1 << 56, 1 << 62, math.MaxInt}
}

func rep(x byte, n int, rest ...byte) []byte {
	return append(bytes.Repeat([]byte{x}, n), rest...)
}

func wantNum(t *testing.T, b []byte, at, n, next int, errno api.Errno) {
	t.Helper()
	gn, gnext, ge := octet.TakeNum(b, at)
	if gn != n || gnext != next || ge != errno {
		t.Errorf("TakeNum(% x, %d): %d, %d, %d; want %d, %d, %d", b, at, gn, gnext, ge, n, next, errno)
	}
}

func wantFixed(t *testing.T, b []byte, at, width, n, next int, errno api.Errno) {
	t.Helper()
	gn, gnext, ge := octet.TakeFixed(b, at, width)
	if gn != n || gnext != next || ge != errno {
		t.Errorf("TakeFixed(% x, %d, %d): %d, %d, %d; want %d, %d, %d", b, at, width, gn, gnext, ge, n, next, errno)
	}
}

func wantText(t *testing.T, b []byte, at, most int, p string, next int, errno api.Errno) {
	t.Helper()
	gp, gnext, ge := octet.TakeText(b, at, most)
	if string(gp) != p || gnext != next || ge != errno {
		t.Errorf("TakeText(% x, %d, %d): %q, %d, %d; want %q, %d, %d", b, at, most, gp, gnext, ge, p, next, errno)
	}
}

// P1.1
func TestNum(t *testing.T) {
	for n, want := range map[int]string{
		0: "\x00", 1: "\x01", 127: "\x7f", 128: "\x80\x01", 300: "\xac\x02", 16383: "\xff\x7f", 16384: "\x80\x80\x01",
		1<<49 - 1: "\xff\xff\xff\xff\xff\xff\x7f", 1 << 49: "\x80\x80\x80\x80\x80\x80\x80\x01",
		api.MaxNum - 1: "\xfe\xff\xff\xff\xff\xff\xff\x0f", api.MaxNum: "\xff\xff\xff\xff\xff\xff\xff\x0f",
	} {
		if b, e := octet.Num(n); string(b) != want || e != api.OK {
			t.Errorf("Num(%d): % x, %d", n, b, e)
		}
	}
	for _, n := range edges() {
		if b, e := octet.Num(n); !bytes.Equal(b, binary.AppendUvarint(nil, uint64(n))) || e != api.OK {
			t.Errorf("Num(%d): % x, %d", n, b, e)
		}
	}
	for _, n := range beyond() {
		if b, e := octet.Num(n); len(b) != 0 || e != api.ErrLimit {
			t.Errorf("Num(%d): % x, %d", n, b, e)
		}
	}
}

// P1.1
func TestTakeNum(t *testing.T) {
	wantNum(t, []byte{0}, 0, 0, 1, api.OK)
	wantNum(t, []byte{0, 0}, 1, 0, 2, api.OK)
	wantNum(t, []byte{9, 0xac, 2, 9}, 1, 300, 3, api.OK)
	wantNum(t, rep(0xff, 7, 15), 0, api.MaxNum, 8, api.OK)
	wantNum(t, rep(0x80, 7, 1), 0, 1<<49, 8, api.OK)
	wantNum(t, rep(0x80, 7, 15, 0xff), 0, 15<<49, 8, api.OK)

	for n := range 8 {
		wantNum(t, rep(0x80, n), 0, 0, 0, api.ErrShort)
		wantNum(t, rep(0xff, n), n, 0, 0, api.ErrShort)
	}
	for n := 1; n < 8; n++ {
		wantNum(t, rep(0x80, n, 0), 0, 0, 0, api.ErrForm)
		wantNum(t, rep(0xff, n, 0, 7), 0, 0, 0, api.ErrForm)
		wantNum(t, rep(0xff, n, 0, 7), n, 0, n+1, api.OK)
	}
	for x := 16; x < 256; x++ {
		wantNum(t, rep(0x80, 7, byte(x)), 0, 0, 0, api.ErrLimit)
		wantNum(t, rep(0xff, 7, byte(x), 0), 0, 0, 0, api.ErrLimit)
	}
	for x := 1; x < 16; x++ {
		wantNum(t, rep(0x80, 7, byte(x)), 0, x<<49, 8, api.OK)
	}
	// Only the eighth byte is held against 15, and it counts from the place on.
	for n := range 7 {
		wantNum(t, rep(0x80, n, 0x7f), 0, 0x7f<<(7*n), n+1, api.OK)
	}
	wantNum(t, rep(0xff, 8, 15), 1, api.MaxNum, 9, api.OK)
}

// P1.1
func TestTakeNumOutside(t *testing.T) {
	for _, b := range [][]byte{nil, {}, {1}, {0x80}, {1, 2, 3}, rep(0xff, 8)} {
		for _, at := range []int{-1, -2, math.MinInt, len(b) + 1, len(b) + 2, math.MaxInt} {
			wantNum(t, b, at, 0, 0, api.ErrArg)
		}
		wantNum(t, b, len(b), 0, 0, api.ErrShort)
	}
	// Spare room behind the end is not read.
	b := []byte{0x80, 1, 1}
	wantNum(t, b[:1], 0, 0, 0, api.ErrShort)
	wantNum(t, b[:1], 2, 0, 0, api.ErrArg)
	wantNum(t, b[:0], 0, 0, 0, api.ErrShort)
}

// P1.1: all texts of up to three bytes, held against a reckoning of another kind.
func TestTakeNumAllShort(t *testing.T) {
	for i := range 1 << 24 {
		b := [3]byte{byte(i), byte(i >> 8), byte(i >> 16)}
		want, next, errno := 0, 0, api.ErrShort
		switch {
		case b[0] < 128:
			want, next, errno = int(b[0]), 1, api.OK
		case b[1] == 0:
			errno = api.ErrForm
		case b[1] < 128:
			want, next, errno = int(b[0])-128+128*int(b[1]), 2, api.OK
		case b[2] == 0:
			errno = api.ErrForm
		case b[2] < 128:
			want, next, errno = int(b[0])-128+128*(int(b[1])-128+128*int(b[2])), 3, api.OK
		}
		if n, at, e := octet.TakeNum(b[:], 0); n != want || at != next || e != errno {
			t.Fatalf("TakeNum(% x): %d, %d, %d; want %d, %d, %d", b, n, at, e, want, next, errno)
		}
	}
}

// P1.2
func TestFixed(t *testing.T) {
	for width := 1; width <= 8; width++ {
		for _, n := range edges() {
			var all [8]byte
			binary.BigEndian.PutUint64(all[:], uint64(n))
			want, errno := all[8-width:], api.OK
			if width < 8 && uint64(n)>>(8*width) != 0 {
				want, errno = nil, api.ErrLimit
			}
			if b, e := octet.Fixed(n, width); !bytes.Equal(b, want) || e != errno {
				t.Errorf("Fixed(%d, %d): % x, %d", n, width, b, e)
			}
		}
		for _, n := range beyond() {
			if b, e := octet.Fixed(n, width); len(b) != 0 || e != api.ErrLimit {
				t.Errorf("Fixed(%d, %d): % x, %d", n, width, b, e)
			}
		}
	}
	for width := 1; width <= 6; width++ {
		most := 1 << (8 * width)
		if b, e := octet.Fixed(most-1, width); !bytes.Equal(b, rep(0xff, width)) || e != api.OK {
			t.Errorf("Fixed(%d, %d): % x, %d", most-1, width, b, e)
		}
		if b, e := octet.Fixed(most, width); len(b) != 0 || e != api.ErrLimit {
			t.Errorf("Fixed(%d, %d): % x, %d", most, width, b, e)
		}
	}
	for _, width := range []int{0, 9, -1, 10, 64, math.MinInt, math.MaxInt} {
		for _, n := range append(beyond(), 0, 1, api.MaxNum) {
			if b, e := octet.Fixed(n, width); len(b) != 0 || e != api.ErrArg {
				t.Errorf("Fixed(%d, %d): % x, %d", n, width, b, e)
			}
		}
	}
}

// P1.2
func TestTakeFixed(t *testing.T) {
	wantFixed(t, []byte{9, 1, 2}, 1, 2, 258, 3, api.OK)
	wantFixed(t, []byte{9, 1, 2}, 0, 1, 9, 1, api.OK)
	wantFixed(t, []byte{0, 0, 0}, 0, 3, 0, 3, api.OK)
	wantFixed(t, rep(0xff, 6), 0, 6, 1<<48-1, 6, api.OK)

	most := rep(0xff, 6)
	wantFixed(t, append([]byte{0x1f}, most...), 0, 7, api.MaxNum, 7, api.OK)
	wantFixed(t, append([]byte{0, 0x1f}, most...), 0, 8, api.MaxNum, 8, api.OK)
	wantFixed(t, append([]byte{7, 0, 0x1f}, most...), 1, 8, api.MaxNum, 9, api.OK)
	wantFixed(t, []byte{0x20, 0, 0, 0, 0, 0, 0}, 0, 7, 0, 0, api.ErrLimit)
	wantFixed(t, rep(0xff, 7), 0, 7, 0, 0, api.ErrLimit)
	wantFixed(t, []byte{0, 0x20, 0, 0, 0, 0, 0, 0}, 0, 8, 0, 0, api.ErrLimit)
	wantFixed(t, []byte{1, 0, 0, 0, 0, 0, 0, 0}, 0, 8, 0, 0, api.ErrLimit)
	wantFixed(t, []byte{0x80, 0, 0, 0, 0, 0, 0, 0}, 0, 8, 0, 0, api.ErrLimit)
	wantFixed(t, []byte{0x80, 0, 0, 0, 0, 0, 0, 5}, 0, 8, 0, 0, api.ErrLimit)
	wantFixed(t, rep(0xff, 8), 0, 8, 0, 0, api.ErrLimit)
}

// P1.2
func TestTakeFixedOutside(t *testing.T) {
	for _, b := range [][]byte{nil, {}, {1}, {1, 2, 3}, rep(0xff, 7), rep(0xff, 8), rep(1, 20)} {
		for _, width := range []int{0, 9, -1, 10, math.MinInt, math.MaxInt} {
			for _, at := range []int{0, len(b), -1, len(b) + 1, math.MaxInt} {
				wantFixed(t, b, at, width, 0, 0, api.ErrArg)
			}
		}
		for width := 1; width <= 8; width++ {
			for _, at := range []int{-1, math.MinInt, len(b) + 1, math.MaxInt, math.MaxInt - 7} {
				wantFixed(t, b, at, width, 0, 0, api.ErrArg)
			}
			wantFixed(t, b, len(b), width, 0, 0, api.ErrShort)
			if at := len(b) - width + 1; at >= 0 {
				wantFixed(t, b, at, width, 0, 0, api.ErrShort)
			}
		}
	}
	// Spare room behind the end is not read.
	b := []byte{1, 2, 3}
	wantFixed(t, b[:2], 0, 3, 0, 0, api.ErrShort)
	wantFixed(t, b[:2], 0, 2, 258, 2, api.OK)
}

// P1.3
func TestText(t *testing.T) {
	long := bytes.Repeat([]byte("x"), 300)
	for _, c := range []struct {
		p    []byte
		most int
		want string
		e    api.Errno
	}{
		{nil, 0, "\x00", api.OK}, {[]byte{}, 0, "\x00", api.OK}, {nil, math.MaxInt, "\x00", api.OK},
		{nil, -1, "", api.ErrLimit}, {nil, math.MinInt, "", api.ErrLimit},
		{[]byte("abc"), 3, "\x03abc", api.OK}, {[]byte("abc"), 4, "\x03abc", api.OK}, {[]byte("abc"), 2, "", api.ErrLimit},
		{[]byte("abc"), 0, "", api.ErrLimit}, {[]byte("abc"), -1, "", api.ErrLimit},
		{[]byte("\x00\xff"), 2, "\x02\x00\xff", api.OK},
		{long[:127], 127, "\x7f" + string(long[:127]), api.OK}, {long[:128], 128, "\x80\x01" + string(long[:128]), api.OK},
		{long, 300, "\xac\x02" + string(long), api.OK}, {long, 299, "", api.ErrLimit}, {long, math.MaxInt, "\xac\x02" + string(long), api.OK},
	} {
		if b, e := octet.Text(c.p, c.most); string(b) != c.want || e != c.e {
			t.Errorf("Text(%q, %d): %q, %d", c.p, c.most, b, e)
		}
	}
}

// P1.3
func TestTakeText(t *testing.T) {
	wantText(t, []byte("\x03abc"), 0, 3, "abc", 4, api.OK)
	wantText(t, []byte("\x03abcd"), 0, 9, "abc", 4, api.OK)
	wantText(t, []byte("xy\x03abcd"), 2, math.MaxInt, "abc", 6, api.OK)
	wantText(t, []byte{0}, 0, 0, "", 1, api.OK)
	wantText(t, []byte{1, 0}, 1, 0, "", 2, api.OK)

	wantText(t, nil, -1, 9, "", 0, api.ErrArg)
	wantText(t, []byte{0}, 2, 9, "", 0, api.ErrArg)
	wantText(t, []byte{0}, math.MaxInt, -1, "", 0, api.ErrArg)
	wantText(t, []byte{0}, math.MinInt, -1, "", 0, api.ErrArg)
	wantText(t, nil, 0, 9, "", 0, api.ErrShort)
	wantText(t, []byte{0x80}, 0, -1, "", 0, api.ErrShort)
	wantText(t, []byte{0x80, 0}, 0, -1, "", 0, api.ErrForm)
	wantText(t, rep(0xff, 8), 0, -1, "", 0, api.ErrLimit)

	wantText(t, []byte("\x03abc"), 0, 2, "", 0, api.ErrLimit)
	wantText(t, []byte("\x03ab"), 0, 2, "", 0, api.ErrLimit)
	wantText(t, []byte{0}, 0, -1, "", 0, api.ErrLimit)
	wantText(t, []byte{0}, 0, math.MinInt, "", 0, api.ErrLimit)
	wantText(t, []byte("\x03ab"), 0, 3, "", 0, api.ErrShort)
	wantText(t, []byte("\x01"), 0, 3, "", 0, api.ErrShort)
	wantText(t, rep(0xff, 7, 15), 0, math.MaxInt, "", 0, api.ErrShort)
	wantText(t, rep(0xff, 7, 15), 0, api.MaxNum, "", 0, api.ErrShort)
	wantText(t, rep(0xff, 7, 15), 0, api.MaxNum-1, "", 0, api.ErrLimit)
	// Spare room behind the end is not read.
	wantText(t, []byte("\x03abc")[:3], 0, 9, "", 0, api.ErrShort)
}

// P1.5
func TestBackWhateverStandsAround(t *testing.T) {
	r := rand.New(rand.NewSource(2))
	some := func() []byte {
		b := make([]byte, r.Intn(12))
		r.Read(b)
		return b
	}
	around := func(b []byte) ([]byte, int, int) {
		head := some()
		all := append(append(slices.Clone(head), b...), some()...)
		return all, len(head), len(head) + len(b)
	}
	for _, n := range edges() {
		b, _ := octet.Num(n)
		all, at, next := around(b)
		wantNum(t, all, at, n, next, api.OK)
		for width := 1; width <= 8; width++ {
			if b, e := octet.Fixed(n, width); e == api.OK {
				all, at, next := around(b)
				wantFixed(t, all, at, width, n, next, api.OK)
			}
		}
	}
	for n := range 400 {
		p := make([]byte, n)
		r.Read(p)
		b, _ := octet.Text(p, n+n%3)
		all, at, next := around(b)
		wantText(t, all, at, n+n%2, string(p), next, api.OK)
	}
}

// P1.5
func TestNumOfWhatIsTaken(t *testing.T) {
	r := rand.New(rand.NewSource(3))
	taken := 0
	for range 200000 {
		b := make([]byte, r.Intn(11))
		r.Read(b)
		for i := range r.Intn(len(b) + 1) {
			b[i] |= 128
		}
		n, next, e := octet.TakeNum(b, 0)
		if e != api.OK {
			continue
		}
		taken++
		if again, e := octet.Num(n); e != api.OK || !bytes.Equal(again, b[:next]) {
			t.Fatalf("% x: %d, whose bytes are % x, %d", b, n, again, e)
		}
	}
	if taken < 1000 {
		t.Fatal("too few were numbers", taken)
	}
}

// P1.6
func TestOrderOfBytes(t *testing.T) {
	l := edges()
	slices.Sort(l)
	l = slices.Compact(l)
	for width := 1; width <= 8; width++ {
		var last []byte
		for i, n := range l {
			b, e := octet.Fixed(n, width)
			if e != api.OK {
				break
			}
			if i > 0 && bytes.Compare(last, b) >= 0 {
				t.Errorf("% x stands ahead of % x", last, b)
			}
			last = b
		}
	}
}

// P3: arguments stay as they are, with the room behind their ends, and answers are new memory.
func TestNothingShared(t *testing.T) {
	room := []byte("\x03abc\x80\x01zzzzzzzzzz")
	kept := slices.Clone(room)
	arg := room[:6]
	texts := [][]byte{}
	take := func(b []byte) { texts = append(texts, b) }

	octet.TakeNum(arg, 4)
	octet.TakeFixed(arg, 1, 3)
	b, _ := octet.Text(arg, 9)
	take(b)
	b, _, _ = octet.TakeText(arg, 0, 9)
	take(b)
	r := octet.Read(arg)
	take(r.Text(9))
	b, _ = octet.Num(300)
	take(b)
	b, _ = octet.Num(300)
	take(b)
	b, _ = octet.Fixed(300, 2)
	take(b)
	b, _ = octet.Fixed(300, 2)
	take(b)
	want := []string{"\x06\x03abc\x80\x01", "abc", "abc", "\xac\x02", "\xac\x02", "\x01\x2c", "\x01\x2c"}
	for i, b := range texts {
		if string(b) != want[i] {
			t.Errorf("%d: %q", i, b)
		}
		b = b[:cap(b)]
		for j := range b {
			b[j] = 0xee
		}
	}
	if !bytes.Equal(room, kept) {
		t.Errorf("what was handed in is %q", room)
	}
	if r.Num() != 128 || r.End() != api.OK {
		t.Error("a reader's bytes were answered")
	}
}
