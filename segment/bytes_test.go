package segment_test

import (
	"bytes"
	"math"
	"math/rand"
	"slices"
	"testing"

	"aumbry/api"
	"aumbry/segment"
)

func wantPut(t *testing.T, l []api.Ref, want []byte) {
	t.Helper()
	if b, e := segment.Put(l); e != api.OK || !bytes.Equal(b, want) {
		t.Errorf("Put(%v): %x, %d; want %x", l, b, e, want)
	}
}

func wantTake(t *testing.T, b []byte, want []api.Ref) {
	t.Helper()
	if l, e := segment.Take(b); e != api.OK || !slices.Equal(l, want) {
		t.Errorf("Take(%x): %v, %d; want %v", b, l, e, want)
	}
}

func wantTakeErrno(t *testing.T, b []byte, want api.Errno) {
	t.Helper()
	if l, e := segment.Take(b); len(l) != 0 || e != want {
		t.Errorf("Take(%x): %v, %d; want %d", b, l, e, want)
	}
}

// join is texts one behind the other.
func join(parts ...[]byte) []byte { return slices.Concat(parts...) }

// name is the bytes of a sum.
func name(x byte) []byte { return bytes.Repeat([]byte{x}, 32) }

// named is a ref with that sum.
func named(x byte, n, bin, slot int) api.Ref {
	return api.Ref{Sum: api.Sum(name(x)), Len: n, Bin: bin, Slot: slot}
}

// P7.4: known bytes.
func TestPutKnown(t *testing.T) {
	wantPut(t, nil, []byte{0})
	wantPut(t, []api.Ref{}, []byte{0})
	wantPut(t, []api.Ref{named(7, 1, 0, 0)}, join([]byte{1}, name(7), []byte{1, 0, 0}))
	wantPut(t, []api.Ref{named(7, 127, 127, 63), named(0, 128, 128, 5)}, join([]byte{2}, name(7), []byte{127, 127, 63}, name(0), []byte{0x80, 1, 0x80, 1, 5}))
	wantPut(t, []api.Ref{named(255, 512, 4095, 63)}, join([]byte{1}, name(255), []byte{0x80, 4, 0xff, 31, 63}))
	// Refs are put as they are: the same one twice, too.
	wantPut(t, []api.Ref{named(9, 300, 2, 1), named(9, 300, 2, 1)}, join([]byte{2}, name(9), []byte{0xac, 2, 2, 1}, name(9), []byte{0xac, 2, 2, 1}))
}

// wrongRefs are refs of which one number is just out of its range, or far.
func wrongRefs() []api.Ref {
	var l []api.Ref
	for _, n := range []int{0, -1, 513, 1 << 53, math.MinInt, math.MaxInt} {
		l = append(l, named(1, n, 0, 0))
	}
	for _, bin := range []int{-1, 4096, 1 << 53, math.MinInt, math.MaxInt} {
		l = append(l, named(1, 1, bin, 0))
	}
	for _, slot := range []int{-1, 64, 1 << 53, math.MinInt, math.MaxInt} {
		l = append(l, named(1, 1, 0, slot))
	}
	return append(l, api.Ref{})
}

// P7.4, P2: ErrLimit is named ahead of ErrArg.
func TestPutWrong(t *testing.T) {
	want := func(l []api.Ref, want api.Errno) {
		t.Helper()
		if b, e := segment.Put(l); len(b) != 0 || e != want {
			t.Errorf("Put of %d refs: %x, %d; want %d", len(l), b, e, want)
		}
	}
	for _, r := range wrongRefs() {
		want([]api.Ref{r}, api.ErrArg)
		want([]api.Ref{named(1, 1, 1, 1), r}, api.ErrArg)
		want(append(alike(api.MaxSeg-1, 9), r), api.ErrArg)
		want(append([]api.Ref{r}, alike(api.MaxSeg, 9)...), api.ErrLimit)
	}
	want(alike(api.MaxSeg+1, 9), api.ErrLimit)
	want(make([]api.Ref, 1000), api.ErrLimit)
	if _, e := segment.Put(alike(api.MaxSeg, 9)); e != api.OK {
		t.Error("MaxSeg refs", e)
	}
}

// P7.7: what is put is taken, and what is taken is put as it was.
func TestTakeOfPut(t *testing.T) {
	r := rand.New(rand.NewSource(1))
	wantTake(t, []byte{0}, nil)
	for n := range api.MaxSeg + 1 {
		l := randomRefs(r, n)
		b, e := segment.Put(l)
		if e != api.OK {
			t.Fatal(n, e)
		}
		wantTake(t, b, l)
	}
	edges := []api.Ref{named(0, 1, 0, 0), named(255, 512, 4095, 63), named(128, 128, 128, 0), named(127, 127, 127, 63)}
	b, _ := segment.Put(edges)
	wantTake(t, b, edges)
}

// P7.4: bytes that end too early, at each place: in the number, a sum, a ref's numbers.
func TestTakeShort(t *testing.T) {
	b, _ := segment.Put([]api.Ref{named(3, 300, 200, 5), named(200, 512, 4095, 63), named(0, 1, 0, 0)})
	for n := range b {
		wantTakeErrno(t, b[:n], api.ErrShort)
	}
	wantTakeErrno(t, nil, api.ErrShort)
	wantTakeErrno(t, []byte{0x80}, api.ErrShort)
	wantTakeErrno(t, []byte{api.MaxSeg}, api.ErrShort)
	// The room behind the end is not read.
	wantTakeErrno(t, b[:len(b)-1:len(b)], api.ErrShort)
}

// P7.4: bytes that are left.
func TestTakeLeft(t *testing.T) {
	for _, l := range [][]api.Ref{nil, alike(1, 5), alike(api.MaxSeg, 5)} {
		b, _ := segment.Put(l)
		for _, more := range [][]byte{{0}, {255}, name(0), b} {
			wantTakeErrno(t, join(b, more), api.ErrForm)
		}
	}
}

// P7.4: octet's errors, in each number.
func TestTakeOctetErrors(t *testing.T) {
	long := []byte{0x80, 0x80, 0x80, 0x80, 0x80, 0x80, 0x80, 16}
	zero := []byte{0x85, 0}
	for _, c := range []struct {
		num  []byte
		want api.Errno
	}{{long, api.ErrLimit}, {zero, api.ErrForm}, {[]byte{0x80, 0}, api.ErrForm}} {
		wantTakeErrno(t, c.num, c.want)
		wantTakeErrno(t, join(c.num, name(1), []byte{1, 1, 1}), c.want)
		wantTakeErrno(t, join([]byte{1}, name(1), c.num, []byte{1, 1}), c.want)
		wantTakeErrno(t, join([]byte{1}, name(1), []byte{1}, c.num, []byte{1}), c.want)
		wantTakeErrno(t, join([]byte{1}, name(1), []byte{1, 1}, c.num), c.want)
		wantTakeErrno(t, join([]byte{2}, name(1), []byte{1, 1, 1}, name(2), []byte{1, 1}, c.num), c.want)
	}
}

// P7.4: more than MaxSeg: that is told where the number stands, whatever is behind it.
func TestTakeLimit(t *testing.T) {
	b, _ := segment.Put(alike(api.MaxSeg, 9))
	for _, count := range [][]byte{{65}, {127}, {0x80, 1}, {0xff, 0xff, 0xff, 0xff, 0xff, 0xff, 0xff, 15}} {
		wantTakeErrno(t, count, api.ErrLimit)
		wantTakeErrno(t, join(count, name(0)), api.ErrLimit)
		wantTakeErrno(t, join(count, b[1:], name(1), []byte{1, 1, 1}), api.ErrLimit)
		wantTakeErrno(t, join(count, name(1), []byte{0, 0, 0}), api.ErrLimit)
		wantTakeErrno(t, join(count, name(1), []byte{0x80, 0}), api.ErrLimit)
	}
}

// wrongNums are a ref's numbers, of which one is out of its range.
var wrongNums = [][]byte{
	{0, 0, 0}, {0x81, 4, 0, 0}, {0xff, 0xff, 3, 0, 0}, {1, 0x80, 32, 0}, {1, 0, 64}, {1, 0, 127}, {1, 0, 0x80, 1},
	{0xff, 0xff, 0xff, 0xff, 0xff, 0xff, 0xff, 15, 0, 0}, {1, 0xff, 0xff, 0xff, 0xff, 0xff, 0xff, 0xff, 15, 0}, {1, 0, 0xff, 0xff, 0xff, 0xff, 0xff, 0xff, 0xff, 15},
}

// P7.4: a ref that is not right is told behind it: ahead of what is wrong later, but behind what is wrong with its own bytes.
func TestTakeWrongRef(t *testing.T) {
	good := join(name(4), []byte{1, 0, 0})
	for _, nums := range wrongNums {
		bad := join(name(1), nums)
		wantTakeErrno(t, join([]byte{1}, bad), api.ErrArg)
		wantTakeErrno(t, join([]byte{2}, good, bad), api.ErrArg)
		wantTakeErrno(t, join([]byte{2}, bad, good), api.ErrArg)
		// Behind it: bytes that are left, that end, of another form.
		wantTakeErrno(t, join([]byte{1}, bad, []byte{0}), api.ErrArg)
		wantTakeErrno(t, join([]byte{2}, bad), api.ErrArg)
		wantTakeErrno(t, join([]byte{2}, bad, name(4)[:31]), api.ErrArg)
		wantTakeErrno(t, join([]byte{2}, bad, name(4), []byte{0x80, 0}), api.ErrArg)
		// Ahead of it.
		wantTakeErrno(t, join([]byte{2}, name(4), []byte{0x80, 0, 0, 0}, bad), api.ErrForm)
	}
	// Its own bytes: a Len of 0, and then no Slot, or one of another form.
	wantTakeErrno(t, join([]byte{1}, name(1), []byte{0, 0}), api.ErrShort)
	wantTakeErrno(t, join([]byte{1}, name(1), []byte{0}), api.ErrShort)
	wantTakeErrno(t, join([]byte{1}, name(1), []byte{0, 0, 0x80, 0}), api.ErrForm)
	wantTakeErrno(t, join([]byte{1}, name(1), []byte{0, 0x80, 0x80, 0x80, 0x80, 0x80, 0x80, 0x80, 16}), api.ErrLimit)
}

// plainTake is what is taken by the chapter's words, with a plain reader of numbers.
func plainTake(b []byte) ([]api.Ref, api.Errno) {
	num := func() (n int, e api.Errno) {
		for i := 0; ; i++ {
			if len(b) == 0 {
				return 0, api.ErrShort
			}
			x := b[0]
			b = b[1:]
			if i == 7 && x > 15 {
				return 0, api.ErrLimit
			}
			n += int(x&127) << (7 * i)
			if x < 128 && x == 0 && i > 0 {
				return 0, api.ErrForm
			}
			if x < 128 {
				return n, api.OK
			}
		}
	}
	count, e := num()
	if e != api.OK {
		return nil, e
	}
	if count > api.MaxSeg {
		return nil, api.ErrLimit
	}
	var l []api.Ref
	for range count {
		if len(b) < 32 {
			return nil, api.ErrShort
		}
		r := api.Ref{Sum: api.Sum(b[:32])}
		b = b[32:]
		for _, at := range []*int{&r.Len, &r.Bin, &r.Slot} {
			if *at, e = num(); e != api.OK {
				return nil, e
			}
		}
		if r.Len < 1 || r.Len > 512 || r.Bin > 4095 || r.Slot > 63 {
			return nil, api.ErrArg
		}
		l = append(l, r)
	}
	if len(b) > 0 {
		return nil, api.ErrForm
	}
	return l, api.OK
}

// P7.4, P1: bytes of any kind, and those of refs with some changed: none panics, each answer is that of the chapter's words, and what is taken is put as it was.
func TestTakeAny(t *testing.T) {
	r := rand.New(rand.NewSource(7))
	for range 20000 {
		b, _ := segment.Put(randomRefs(r, r.Intn(5)))
		switch r.Intn(4) {
		case 0:
			b = make([]byte, r.Intn(80))
			r.Read(b)
		case 1:
			b = b[:r.Intn(len(b)+1)]
		case 2:
			b = append(b, byte(r.Intn(256)))
		}
		for range r.Intn(4) {
			if len(b) > 0 {
				b[r.Intn(len(b))] = byte(r.Intn(256))
			}
		}
		if len(b) > 0 && r.Intn(2) == 0 {
			b[0] = byte(r.Intn(6))
		}
		l, e := segment.Take(b)
		want, wantE := plainTake(b)
		if e != wantE || !slices.Equal(l, want) {
			t.Fatalf("Take(%x): %v, %d; want %v, %d", b, l, e, want, wantE)
		}
		if again, _ := segment.Put(l); e == api.OK && !bytes.Equal(again, b) {
			t.Fatalf("%x is put as %x", b, again)
		}
	}
}

// P3: bytes and refs are new memory, and what is handed in stays as it is.
func TestBytesMemory(t *testing.T) {
	l := randomRefs(rand.New(rand.NewSource(8)), 5)
	kept := slices.Clone(l)
	b, _ := segment.Put(l)
	clear(l)
	wantTake(t, b, kept)
	room := join(b, name(9))
	got, _ := segment.Take(room[:len(b)])
	if !bytes.Equal(room, join(b, name(9))) {
		t.Error("bytes that were handed in are changed")
	}
	clear(room)
	if !slices.Equal(got, kept) {
		t.Error("refs lie in the bytes")
	}
	clear(got[:cap(got)])
	wantTake(t, b, kept)
	one, _ := segment.Put(kept)
	two, _ := segment.Put(kept)
	clear(one[:cap(one)])
	wantTake(t, two, kept)
}
