package tape_test

import (
	"bytes"
	"math"
	"math/rand"
	"testing"

	"aumbry/api"
	"aumbry/tape"
)

// wantBlock: a block is put so, and taken.
func wantBlock(t *testing.T, x api.Block, want []byte) {
	t.Helper()
	if b, e := tape.Put(x); e != api.OK || !bytes.Equal(b, want) {
		t.Fatalf("Put(%+v): %s, %d; want %s", numbers(x), brief(b), e, brief(want))
	}
	if got, e := tape.Take(want); e != api.OK || !sameBlock(got, x) {
		t.Fatalf("Take(%s): %+v, %d; want %+v", brief(want), numbers(got), e, numbers(x))
	}
}

// numbers is a block without its bytes.
func numbers(x api.Block) api.Block {
	x.Bytes = nil
	return x
}

// wantNoBlock: it is no block to be put, nor one to be taken.
func wantNoBlock(t *testing.T, x api.Block) {
	t.Helper()
	if b, e := tape.Put(x); e != api.ErrArg || len(b) != 0 {
		t.Fatalf("Put(%+v) of %d bytes: %s, %d", numbers(x), len(x.Bytes), brief(b), e)
	}
	for _, n := range []int{x.Lay.Size, x.Lay.Data, x.Lay.Parity, x.Total, x.Group, x.Index} {
		if n < 0 || n > api.MaxNum {
			return
		}
	}
	wantNotTaken(t, laid(x), api.ErrArg)
}

func wantNotTaken(t *testing.T, b []byte, want api.Errno) {
	t.Helper()
	if x, e := tape.Take(b); e != want || !sameBlock(x, api.Block{}) {
		t.Fatalf("Take(%s): %+v, %d; want %d", brief(b), x, e, want)
	}
}

// block is a block of bytes that count up.
func block(size, data, parity, total, group, index int) api.Block {
	p := make([]byte, max(size, 0))
	for i := range p {
		p[i] = byte(i + 1)
	}
	return api.Block{Lay: api.Lay{Size: size, Data: data, Parity: parity}, Total: total, Group: group, Index: index, Bytes: p}
}

// P26.3: known bytes.
func TestBlockKnown(t *testing.T) {
	wantBlock(t, block(1, 1, 0, 1, 0, 0), []byte("\x01\x01\x00\x01\x00\x00\x01\x13\x23\x04\x07"))
	wantBlock(t, block(4, 32, 16, 300, 2, 20), crced([]byte("\x04\x20\x10\xac\x02\x02\x14\x01\x02\x03\x04")))
	wantBlock(t, block(129, 4, 3, 32768, 63, 5), crced(lay([]byte("\x81\x01\x04\x03\x80\x80\x02\x3f\x05"), block(129, 0, 0, 0, 0, 0).Bytes)))
}

// P26.3: blocks at the edges of what is right, and beyond.
func TestBlockEdges(t *testing.T) {
	for _, x := range []api.Block{
		block(1, 1, 0, 1, 0, 0), block(4096, 32, 16, 32768, 0, 23), block(4096, 1, 16, 1, 0, 16), block(64, 32, 0, 32768, 15, 31),
		// 1000 bytes in blocks of 100, in groups of 4: the last one has two blocks of data.
		block(100, 4, 3, 1000, 0, 6), block(100, 4, 3, 1000, 1, 6), block(100, 4, 3, 1000, 2, 4), block(100, 4, 3, 901, 2, 4), block(100, 4, 3, 900, 2, 3),
		// A group that is full, and one that has one block more.
		block(100, 4, 3, 800, 1, 6), block(100, 4, 3, 801, 2, 3),
		// 512 blocks: of data alone, and with parity.
		block(1, 1, 0, 512, 511, 0), block(1, 32, 0, 512, 15, 31), block(1, 1, 1, 256, 255, 1), block(1, 32, 16, 336, 10, 31), block(64, 32, 0, 32768, 0, 0), block(2, 1, 7, 128, 63, 7),
	} {
		wantBlock(t, x, laid(x))
	}
	for _, x := range []api.Block{
		block(100, 4, 3, 1000, 0, 7), block(100, 4, 3, 1000, 1, 7), block(100, 4, 3, 1000, 2, 5), block(100, 4, 3, 1000, 3, 0), block(100, 4, 3, 900, 2, 4),
		block(100, 4, 3, 800, 2, 0), block(100, 4, 0, 1000, 2, 2), block(1, 1, 0, 1, 0, 1), block(1, 1, 0, 1, 1, 0),
		// 513 blocks, and more.
		block(1, 1, 0, 513, 0, 0), block(1, 32, 0, 513, 0, 0), block(1, 1, 1, 257, 0, 0), block(1, 32, 16, 337, 0, 0), block(63, 32, 0, 32768, 0, 0), block(2, 1, 7, 129, 0, 0), block(1, 1, 16, 32768, 0, 0),
	} {
		wantNoBlock(t, x)
	}
}

// P26.3, P5: each number below and above what is right, of any size, in a block that is right else.
func TestBlockNumbers(t *testing.T) {
	far := []int{-1, math.MinInt, math.MaxInt, math.MaxInt - 4096, 1 << 32, 1<<32 + 1, api.MaxNum, api.MaxNum + 1}
	for _, y := range []struct {
		at      func(x *api.Block) *int
		strange []int
	}{
		{func(x *api.Block) *int { return &x.Lay.Size }, []int{0, 99, 101, 4097}},
		{func(x *api.Block) *int { return &x.Lay.Data }, []int{0, 33}},
		{func(x *api.Block) *int { return &x.Lay.Parity }, []int{17}},
		{func(x *api.Block) *int { return &x.Total }, []int{0, 32769}},
		{func(x *api.Block) *int { return &x.Group }, []int{2, 3}},
		{func(x *api.Block) *int { return &x.Index }, []int{5, 6}},
	} {
		for _, n := range append(far, y.strange...) {
			x := block(100, 4, 3, 600, 1, 1)
			*y.at(&x) = n
			wantNoBlock(t, x)
		}
	}
	wantBlock(t, block(100, 4, 3, 600, 1, 4), laid(block(100, 4, 3, 600, 1, 4)))
	wantNoBlock(t, api.Block{})
	// A stream that is too long, in few blocks.
	wantBlock(t, block(4096, 32, 16, 32768, 0, 0), laid(block(4096, 32, 16, 32768, 0, 0)))
	for _, n := range append(far, 0, 32769, 32770, 40000) {
		wantNoBlock(t, block(4096, 32, 16, n, 0, 0))
	}
	// All of a size that there may not be, bytes and number alike.
	for _, x := range []api.Block{block(4097, 1, 0, 1, 0, 0), block(0, 1, 0, 1, 0, 0)} {
		wantNoBlock(t, x)
	}
	for _, n := range []int{0, 1, 99, 101, 5000} {
		x := block(100, 4, 3, 600, 1, 1)
		x.Bytes = make([]byte, n)
		wantNoBlock(t, x)
	}
}

// P26.3: bytes that are too few for a check sum.
func TestTakeShort(t *testing.T) {
	b := laid(block(4, 2, 1, 20, 1, 2))
	for n := range 4 {
		wantNotTaken(t, b[:n], api.ErrShort)
		wantNotTaken(t, make([]byte, n), api.ErrShort)
	}
	wantNotTaken(t, nil, api.ErrShort)
	for n := 4; n < len(b); n++ {
		wantNotTaken(t, b[:n], api.ErrSum)
		wantNotTaken(t, crced(b[:n-4]), want(b[:n-4]))
	}
	// The sum of no bytes is 0: nothing is there then.
	wantNotTaken(t, make([]byte, 4), api.ErrShort)
	wantNotTaken(t, []byte{0, 0, 0, 1}, api.ErrSum)
}

// want is the error of a block of 4 bytes, of which only the beginning is there: numbers are missing, or bytes.
func want(b []byte) api.Errno {
	if len(b) < 6 {
		return api.ErrShort
	}
	return api.ErrArg
}

// P26.3: a bit that is turned, wherever it is, and a sum the other way round.
func TestTakeSum(t *testing.T) {
	b := laid(block(20, 2, 1, 300, 1, 2))
	for i := range 8 * len(b) {
		turned := bytes.Clone(b)
		turned[i/8] ^= 1 << (i % 8)
		wantNotTaken(t, turned, api.ErrSum)
	}
	wantNotTaken(t, append(bytes.Clone(b), 0), api.ErrSum)
	wantNotTaken(t, b[1:], api.ErrSum)
	n := len(b)
	wantNotTaken(t, lay(b[:n-4], []byte{b[n-1], b[n-2], b[n-3], b[n-4]}), api.ErrSum)
	wantNotTaken(t, make([]byte, 300), api.ErrSum)
	// Ahead of all that is wrong in what it guards.
	wantNotTaken(t, append(laid(block(0, 0, 0, 0, 0, 0)), 1), api.ErrSum)
	wantNotTaken(t, []byte("\x80\x00\x01\x02\x03\x04"), api.ErrSum)
}

// P26.3: octet's errors in each number, ahead of what is wrong with others.
func TestTakeOctet(t *testing.T) {
	for num, want := range map[string]api.Errno{
		"\x80\x80\x80\x80\x80\x80\x80\x10": api.ErrLimit,
		"\xff\xff\xff\xff\xff\xff\xff\xff": api.ErrLimit,
		"\x80\x00":                         api.ErrForm,
		"\x85\x80\x00":                     api.ErrForm,
		"\x80":                             api.ErrShort,
		"\xff\xff":                         api.ErrShort,
		"":                                 api.ErrShort,
	} {
		for i := range 6 {
			for _, ahead := range [][]byte{lay(4, 2, 1, 20, 1, 2), make([]byte, 6), lay(99, 99, 99, 99, 99, 99)} {
				wantNotTaken(t, crced(lay(ahead[:i], []byte(num))), want)
				if want != api.ErrShort {
					wantNotTaken(t, crced(lay(ahead[:i], []byte(num), make([]byte, 40))), want)
				}
			}
		}
	}
}

// P26.3: bytes that are too few or too many for the size.
func TestTakeBytes(t *testing.T) {
	x := block(20, 2, 1, 300, 1, 2)
	for n := range 60 {
		x.Bytes = make([]byte, n)
		if n != 20 {
			wantNotTaken(t, laid(x), api.ErrArg)
		}
	}
}

// P26.3, B1: blocks of any kind, some of them wrong, against the chapter's words.
func TestBlockAny(t *testing.T) {
	r := rand.New(rand.NewSource(20))
	met := map[api.Errno]int{}
	for range 6000 {
		total := 1 + r.Intn(1<<r.Intn(16))
		l := someLay(r, total)
		groups := plainGroups(l, total)
		g := r.Intn(len(groups))
		x := api.Block{Lay: l, Total: total, Group: g, Index: r.Intn(groups[g] + l.Parity), Bytes: noise(r, l.Size)}
		if r.Intn(2) == 0 {
			n := []*int{&x.Lay.Size, &x.Lay.Data, &x.Lay.Parity, &x.Total, &x.Group, &x.Index}[r.Intn(6)]
			*n = max(0, *n+r.Intn(80)-40)
		}
		b, e := tape.Put(x)
		met[e]++
		if !plainIsBlock(x) {
			wantNoBlock(t, x)
		} else {
			wantBlock(t, x, laid(x))
		}
		if e == api.OK && !bytes.Equal(b, laid(x)) {
			t.Fatalf("Put(%+v): %s", numbers(x), brief(b))
		}
	}
	if met[api.OK] < 1000 || met[api.ErrArg] < 1000 {
		t.Error("met", met)
	}
}

// P26.3, P1: bytes of any kind behind a right sum, against the chapter's words.
func TestTakeAny(t *testing.T) {
	r := rand.New(rand.NewSource(21))
	met := map[api.Errno]int{}
	for range 40000 {
		b := lay(1+r.Intn(6), 1+r.Intn(4), r.Intn(3), 1+r.Intn(20), r.Intn(3), r.Intn(4), noise(r, r.Intn(7)))
		for range r.Intn(3) {
			b[r.Intn(len(b))] = byte(r.Intn(256) >> r.Intn(8))
		}
		b = crced(b[:len(b)-r.Intn(2)*r.Intn(len(b))])
		want, wantE := plainTake(b)
		x, e := tape.Take(b)
		if e != wantE || !sameBlock(x, want) {
			t.Fatalf("Take(% x): %+v, %d; want %+v, %d", b, x, e, want, wantE)
		}
		met[e]++
	}
	for _, e := range []api.Errno{api.OK, api.ErrShort, api.ErrForm, api.ErrArg} {
		if met[e] < 100 {
			t.Error("met", met)
		}
	}
}

// P3: what is handed in stays, and is not kept; what is answered is new memory.
func TestBlockMemory(t *testing.T) {
	x := block(40, 2, 1, 300, 1, 2)
	was := bytes.Clone(x.Bytes)
	var same func()
	x.Bytes, same = roomy(t, x.Bytes, sameByte, 77)
	b, _ := tape.Put(x)
	again, _ := tape.Put(x)
	spoil(again)
	same()
	spoil(x.Bytes)
	x.Bytes = was
	if !bytes.Equal(b, laid(x)) {
		t.Error("a block lies in what was handed in, or answered")
	}
	b, same = roomy(t, b, sameByte, 77)
	got, _ := tape.Take(b)
	other, _ := tape.Take(b)
	spoil(other.Bytes)
	same()
	spoil(b)
	if !sameBlock(got, x) {
		t.Error("a block's bytes lie in what was handed in, or answered")
	}
}
