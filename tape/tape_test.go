package tape_test

import (
	"bytes"
	"math"
	"math/rand"
	"slices"
	"testing"

	"aumbry/api"
	"aumbry/parity"
	"aumbry/tape"
)

// write is the blocks of entries; they are those of the chapter's words.
func write(t *testing.T, l []api.Entry, y api.Lay) [][]byte {
	t.Helper()
	b, e := tape.Write(l, y)
	want, wantE := plainWrite(l, y)
	if e != wantE || e != api.OK || !sameRows(b, want) {
		t.Fatalf("Write of %d entries by %v: %d blocks, %d; want %d, %d", len(l), y, len(b), e, len(want), wantE)
	}
	return b
}

func wantNotWritten(t *testing.T, l []api.Entry, y api.Lay, want api.Errno) {
	t.Helper()
	if b, e := tape.Write(l, y); e != want || len(b) != 0 {
		t.Fatalf("Write of %d entries by %v: %d blocks, %d; want %d", len(l), y, len(b), e, want)
	}
}

func wantRead(t *testing.T, blocks [][]byte, want []api.Entry) {
	t.Helper()
	if l, e := tape.Read(blocks); e != api.OK || !sameEntries(l, want) {
		t.Fatalf("Read of %d blocks: %v, %d; want %v", len(blocks), l, e, want)
	}
}

func wantNotRead(t *testing.T, blocks [][]byte, want api.Errno) {
	t.Helper()
	if l, e := tape.Read(blocks); e != want || len(l) != 0 {
		t.Fatalf("Read of %d blocks: %d entries, %d; want %d", len(blocks), len(l), e, want)
	}
}

// streamOf is entries by which a stream has just so many bytes: 9 at least.
func streamOf(t *testing.T, total int) []api.Entry {
	t.Helper()
	r := rand.New(rand.NewSource(int64(total)))
	var l []api.Entry
	left := total - 1
	for left > 0 {
		n := min(left, 6000)
		if left-n < 300 && left > n {
			n = left - 300
		}
		left -= n
		head := 6 // name, numbers, a length, and a byte that names the way
		if n-6 >= 127 {
			head++
		}
		l = append(l, api.Entry{Name: "a", Gen: 1, Bytes: noise(r, n-head)})
	}
	if b, e := tape.Stream(l); e != api.OK || len(b) != total {
		t.Fatal("the stream has", len(b), e, "not", total)
	}
	return l
}

// P26.4: known blocks.
func TestWriteKnown(t *testing.T) {
	head := func(n ...byte) []byte { return n }
	l := []api.Entry{{Name: "a", Gen: 1, Bytes: []byte("xyz")}} // 01 01 a 01 00 04 00 x y z
	b := write(t, l, api.Lay{Size: 4, Data: 2, Parity: 0})
	if !sameRows(b, [][]byte{
		crced(lay(head(4, 2, 0, 10, 0, 0), []byte("\x01\x01a\x01"))),
		crced(lay(head(4, 2, 0, 10, 0, 1), []byte("\x00\x04\x00x"))),
		crced(lay(head(4, 2, 0, 10, 1, 0), []byte("yz\x00\x00"))),
	}) {
		t.Errorf("% x", b)
	}
	// The parity of a group of one is what that one is; of two it is the line through both.
	b = write(t, l, api.Lay{Size: 4, Data: 2, Parity: 2})
	more, _ := parity.Encode([][]byte{[]byte("\x01\x01a\x01"), []byte("\x00\x04\x00x")}, 2)
	if !sameRows(b, [][]byte{
		crced(lay(head(4, 2, 2, 10, 0, 0), []byte("\x01\x01a\x01"))),
		crced(lay(head(4, 2, 2, 10, 0, 1), []byte("\x00\x04\x00x"))),
		crced(lay(head(4, 2, 2, 10, 0, 2), more[0])),
		crced(lay(head(4, 2, 2, 10, 0, 3), more[1])),
		crced(lay(head(4, 2, 2, 10, 1, 0), []byte("yz\x00\x00"))),
		crced(lay(head(4, 2, 2, 10, 1, 1), []byte("yz\x00\x00"))),
		crced(lay(head(4, 2, 2, 10, 1, 2), []byte("yz\x00\x00"))),
	}) {
		t.Errorf("% x", b)
	}
	b = write(t, nil, api.Lay{Size: 3, Data: 32, Parity: 1})
	if !sameRows(b, [][]byte{crced(lay(head(3, 32, 1, 1, 0, 0, 0, 0, 0))), crced(lay(head(3, 32, 1, 1, 0, 1, 0, 0, 0)))}) {
		t.Errorf("% x", b)
	}
	wantRead(t, b, nil)
}

// P26.4: layouts that are not right, ahead of Stream's error.
func TestWriteWrongLayout(t *testing.T) {
	fine, bad := []api.Entry{{Name: "a", Gen: 1}}, []api.Entry{{Name: "", Gen: 1}}
	for _, y := range []api.Lay{
		{}, {Size: 1}, {Data: 1}, {Parity: 1},
		{Size: -1, Data: 4, Parity: 2}, {Size: 4097, Data: 4, Parity: 2}, {Size: math.MinInt, Data: 4, Parity: 2}, {Size: math.MaxInt, Data: 4, Parity: 2},
		{Size: 64, Data: 0, Parity: 2}, {Size: 64, Data: -1, Parity: 2}, {Size: 64, Data: 33, Parity: 2}, {Size: 64, Data: math.MaxInt, Parity: 2},
		{Size: 64, Data: 4, Parity: -1}, {Size: 64, Data: 4, Parity: 17}, {Size: 64, Data: 4, Parity: math.MinInt}, {Size: 64, Data: 4, Parity: math.MaxInt},
	} {
		for _, l := range [][]api.Entry{nil, fine, bad, many(201, fine[0])} {
			wantNotWritten(t, l, y, api.ErrArg)
		}
	}
	for _, y := range []api.Lay{{Size: 1, Data: 1}, {Size: 4096, Data: 32, Parity: 16}, {Size: 1, Data: 32, Parity: 16}, {Size: 4096, Data: 1}} {
		wantRead(t, write(t, fine, y), fine)
		wantNotWritten(t, bad, y, api.ErrArg)
		wantNotWritten(t, many(201, fine[0]), y, api.ErrLimit)
		wantNotWritten(t, []api.Entry{{Name: "a", Gen: 1, Bytes: make([]byte, 8193)}}, y, api.ErrLimit)
	}
}

// P26.4: as many blocks as there may be, and one more.
func TestWriteMany(t *testing.T) {
	for _, x := range []struct {
		y    api.Lay
		most int // bytes of a stream
	}{
		{api.Lay{Size: 1, Data: 1}, 512}, {api.Lay{Size: 1, Data: 32}, 512}, {api.Lay{Size: 1, Data: 1, Parity: 1}, 256}, {api.Lay{Size: 1, Data: 32, Parity: 16}, 336},
		{api.Lay{Size: 10, Data: 3, Parity: 16}, 800}, {api.Lay{Size: 63, Data: 32}, 63 * 512}, {api.Lay{Size: 20, Data: 4, Parity: 4}, 20 * 256},
	} {
		l := streamOf(t, x.most)
		b := write(t, l, x.y)
		if plainCount(x.y, x.most) != len(b) || plainCount(x.y, x.most+1) <= 512 {
			t.Fatal("no edge", x, len(b))
		}
		wantRead(t, b, l)
		slices.Reverse(b)
		wantRead(t, b, l)
		wantNotWritten(t, streamOf(t, x.most+1), x.y, api.ErrLimit)
	}
	// The longest stream of all.
	l := streamOf(t, 32768)
	for _, y := range []api.Lay{{Size: 64, Data: 32}, {Size: 4096, Data: 8, Parity: 16}, {Size: 100, Data: 32, Parity: 15}} {
		wantRead(t, write(t, l, y), l)
	}
}

// lost is blocks without as many of each group as it has parity, or one more of the group that is named (-1: none).
func lost(t *testing.T, r *rand.Rand, blocks [][]byte, named int) [][]byte {
	t.Helper()
	groups := map[int][]int{}
	for i, b := range blocks {
		x, e := plainTake(b)
		if e != api.OK {
			t.Fatal(e)
		}
		groups[x.Group] = append(groups[x.Group], i)
	}
	gone := map[int]bool{}
	for g, l := range groups {
		x, _ := plainTake(blocks[0])
		n := x.Lay.Parity
		if g == named {
			n++
		}
		r.Shuffle(len(l), func(i, j int) { l[i], l[j] = l[j], l[i] })
		for _, i := range l[:n] {
			gone[i] = true
		}
	}
	var left [][]byte
	for i, b := range blocks {
		if !gone[i] {
			left = append(left, b)
		}
	}
	return left
}

// shuffled is rows in some order, some of them more than once.
func shuffled(r *rand.Rand, blocks [][]byte) [][]byte {
	l := slices.Clone(blocks)
	for range min(r.Intn(20), 20*len(blocks)) {
		l = append(l, blocks[r.Intn(len(blocks))])
	}
	r.Shuffle(len(l), func(i, j int) { l[i], l[j] = l[j], l[i] })
	return l
}

// strays are bytes that are no block, but like one.
func strays(r *rand.Rand, block []byte) [][]byte {
	turned := bytes.Clone(block)
	turned[r.Intn(len(turned))] ^= 1 << r.Intn(8)
	x, _ := plainTake(block)
	x.Index += 100
	y, _ := plainTake(block)
	y.Bytes = append(y.Bytes[:len(y.Bytes):len(y.Bytes)], 0)
	return [][]byte{nil, {}, {1, 2, 3}, make([]byte, 4), []byte("what is no block"), turned, block[:len(block)-1], append(bytes.Clone(block), 0), laid(x), laid(y)}
}

// P26.4, P26.5, P26.6, P26.7, B1, B6: what is written is read, in whichever order, however often, with as many lost as there is parity, and with strays between.
func TestReadOfWrite(t *testing.T) {
	r := rand.New(rand.NewSource(30))
	for range 250 {
		l := someEntries(r, r.Intn(6))
		stream, e := plainStream(l)
		if e != api.OK {
			t.Fatal(e)
		}
		b := write(t, l, someLay(r, len(stream)))
		wantRead(t, b, l)
		wantRead(t, shuffled(r, b), l)
		left := lost(t, r, b, -1)
		wantRead(t, left, l)
		all := shuffled(r, append(left, strays(r, b[r.Intn(len(b))])...))
		wantRead(t, all, l)
		x, _ := plainTake(b[len(b)-1])
		wantNotRead(t, shuffled(r, lost(t, r, b, r.Intn(x.Group+1))), api.ErrShort)
	}
}

// P26.7, B6: whichever blocks of a small tape are lost: each choice of them.
func TestReadEachLoss(t *testing.T) {
	l := []api.Entry{{Name: "a", Gen: 1, Bytes: []byte("some bytes")}}
	// 17 bytes, in three blocks and two: five and four with parity.
	b := write(t, l, api.Lay{Size: 4, Data: 3, Parity: 2})
	if len(b) != 9 {
		t.Fatal(len(b))
	}
	for gone := range 1 << 9 {
		var left [][]byte
		lostOf := [2]int{}
		for i, x := range b {
			if gone>>i&1 == 0 {
				left = append(left, x)
			} else {
				lostOf[i/5]++
			}
		}
		if lostOf[0] <= 2 && lostOf[1] <= 2 {
			wantRead(t, left, l)
		} else {
			wantNotRead(t, left, api.ErrShort)
		}
	}
}

// P26.5: no blocks at all.
func TestReadNone(t *testing.T) {
	wantNotRead(t, nil, api.ErrShort)
	wantNotRead(t, [][]byte{}, api.ErrShort)
	wantNotRead(t, [][]byte{nil, {}, {1}, []byte("what is no block"), make([]byte, 200)}, api.ErrShort)
	wantNotRead(t, make([][]byte, 5000), api.ErrShort)
}

// P26.5: blocks of other layouts, or of another stream, ahead of groups with too few blocks, wherever they stand.
func TestReadOther(t *testing.T) {
	l := []api.Entry{{Name: "a", Gen: 1, Bytes: []byte("some bytes")}}
	y := api.Lay{Size: 4, Data: 3, Parity: 2}
	b := write(t, l, y)
	more := []api.Entry{{Name: "a", Gen: 1, Bytes: []byte("some bytes!")}}
	for _, other := range [][][]byte{
		write(t, more, y), write(t, l, api.Lay{Size: 5, Data: 3, Parity: 2}), write(t, l, api.Lay{Size: 4, Data: 2, Parity: 2}), write(t, l, api.Lay{Size: 4, Data: 3, Parity: 1}), write(t, l, api.Lay{Size: 4, Data: 3}),
	} {
		for _, x := range other {
			wantNotRead(t, append([][]byte{x}, b...), api.ErrForm)
			wantNotRead(t, append(slices.Clone(b), x), api.ErrForm)
			wantNotRead(t, slices.Insert(slices.Clone(b), 4, x), api.ErrForm)
			wantNotRead(t, [][]byte{b[0], x}, api.ErrForm)
			wantNotRead(t, [][]byte{x, b[8]}, api.ErrForm)
			// One that is no block plays no part.
			wantRead(t, append([][]byte{x[:len(x)-1]}, b...), l)
		}
	}
}

// P26.5: of two blocks at one place the first one counts.
func TestReadFirst(t *testing.T) {
	y := api.Lay{Size: 4, Data: 3, Parity: 0}
	one := []api.Entry{{Name: "a", Gen: 1, Bytes: []byte("some bytes")}}
	two := []api.Entry{{Name: "b", Gen: 2, Time: 3, Bytes: []byte("more texts")}}
	a, b := write(t, one, y), write(t, two, y)
	wantRead(t, slices.Concat(a, b), one)
	wantRead(t, slices.Concat(b, a), two)
	wantRead(t, slices.Concat(b[1:], a[:1], b[:1]), []api.Entry{{Name: "a", Gen: 1, Time: 3, Bytes: []byte("more texts")}})
	for i := range a {
		wantRead(t, slices.Concat(a[i:i+1], a, b), one)
		wantRead(t, slices.Concat(b[:i], b[i+1:], b[i:i+1], a), two)
	}
}

// P26.5: of a group the first blocks, by their indices, that are not lost tell the others, wrong ones or not.
func TestReadRepair(t *testing.T) {
	y := api.Lay{Size: 4, Data: 3, Parity: 2}
	one := []api.Entry{{Name: "a", Gen: 1, Bytes: []byte("some bytes")}}
	b := write(t, one, y)
	for _, i := range []int{3, 4, 7, 8} {
		x, _ := plainTake(b[i])
		x.Bytes = []byte("oops")
		wrong := slices.Clone(b)
		wrong[i] = laid(x)
		wantRead(t, wrong, one)
		slices.Reverse(wrong)
		wantRead(t, wrong, one)
	}
	// A wrong one that is needed is believed.
	x, _ := plainTake(b[0])
	x.Bytes = []byte("\x01\x01b\x01")
	wantRead(t, slices.Concat([][]byte{laid(x)}, b[1:]), []api.Entry{{Name: "b", Gen: 1, Bytes: []byte("some bytes")}})
}

// blocksOf is the blocks of any stream, be it one of entries or not.
func blocksOf(stream []byte, y api.Lay) [][]byte {
	var l [][]byte
	for _, x := range plainBlocks(stream, y) {
		l = append(l, laid(x))
	}
	return l
}

// P26.5: the errors of a stream that is none; what stands behind its end plays no part.
func TestReadStream(t *testing.T) {
	y := api.Lay{Size: 5, Data: 2, Parity: 1}
	ok := lay(1, "a", 1, 0, "\x00")
	for _, x := range []struct {
		stream []byte
		want   api.Errno
	}{
		{ok[:6], api.ErrShort}, {lay(ok, 0), api.ErrForm}, {lay(1, "a b", 1, 0, "\x00"), api.ErrArg}, {lay(201, make([]byte, 20)), api.ErrLimit}, {lay(1, "a", 1, 0, "\x07"), api.ErrForm}, {lay(1, "a", 1, 0, ""), api.ErrShort}, {[]byte{0, 0}, api.ErrForm}, {[]byte{0x80}, api.ErrShort},
	} {
		b := blocksOf(x.stream, y)
		wantNotRead(t, b, x.want)
		wantNotRead(t, b[1:], x.want)
		// Too few blocks are told ahead of that.
		wantNotRead(t, b[:len(b)-2], api.ErrShort)
		wantNotRead(t, append(slices.Clone(b), blocksOf(ok, api.Lay{Size: 1, Data: 1})[0]), api.ErrForm)
	}
	b := plainBlocks(ok, y)
	b[1].Bytes[3] = 9
	wantRead(t, [][]byte{laid(b[0]), laid(b[1])}, []api.Entry{{Name: "a", Gen: 1}})
}

// P26.5: only so many blocks are looked at, whatever they are.
func TestReadMost(t *testing.T) {
	l := []api.Entry{{Name: "a", Gen: 1, Bytes: []byte("some bytes")}}
	b := write(t, l, api.Lay{Size: 4, Data: 5})
	last := b[len(b)-1:]
	other := write(t, nil, api.Lay{Size: 1, Data: 1})
	for _, ahead := range []struct {
		l    []byte
		rest [][]byte
	}{{nil, b}, {[]byte("what is no block"), b}, {b[0], b[1:]}} {
		wantRead(t, append(many(2048-len(ahead.rest), ahead.l), ahead.rest...), l)
		wantNotRead(t, append(many(2048-len(ahead.rest)+1, ahead.l), ahead.rest...), api.ErrShort)
		wantNotRead(t, append(many(2048, ahead.l), ahead.rest...), api.ErrShort)
		wantRead(t, slices.Concat(b, many(2048-len(b), ahead.l), other, last), l)
	}
	wantNotRead(t, slices.Concat(b, many[[]byte](2047-len(b), nil), other), api.ErrForm)
	wantRead(t, slices.Concat(b, many(2048-len(b), b[0]), many(3000, other[0])), l)
}

// P26.4, P26.5, P1: blocks of which some are changed, lost, doubled, or of another tape, against the chapter's words.
func TestReadAny(t *testing.T) {
	r := rand.New(rand.NewSource(31))
	met := map[api.Errno]int{}
	for range 1500 {
		l := someEntries(r, r.Intn(3))
		for i := range l {
			l[i].Bytes = l[i].Bytes[:min(len(l[i].Bytes), 60)]
		}
		stream, _ := plainStream(l)
		if r.Intn(3) == 0 {
			stream[r.Intn(len(stream))] ^= byte(1 << r.Intn(8))
		}
		b := blocksOf(stream, someLay(r, len(stream)))
		for range r.Intn(3) {
			x, _ := plainTake(b[r.Intn(len(b))])
			x.Bytes = bytes.Clone(x.Bytes)
			x.Bytes[r.Intn(len(x.Bytes))]++
			b = append(b, laid(x))
		}
		b = shuffled(r, b)
		b = b[:len(b)-r.Intn(2)*r.Intn(1+len(b)/2)]
		if r.Intn(10) == 0 {
			b = append(b, strays(r, write(t, l, someLay(r, 200+len(stream)))[0])...)
		}
		if r.Intn(10) == 0 {
			b = append(b, write(t, nil, someLay(r, 1))...)
		}
		got, e := tape.Read(b)
		want, wantE := plainRead(b)
		if e != wantE || !sameEntries(got, want) {
			t.Fatalf("Read(% x): %v, %d; want %v, %d", b, got, e, want, wantE)
		}
		met[e]++
	}
	for _, e := range []api.Errno{api.OK, api.ErrShort, api.ErrForm} {
		if met[e] < 20 {
			t.Error("met", met)
		}
	}
}

// P26.4: writes of any entries and layouts, against the chapter's words.
func TestWriteAny(t *testing.T) {
	r := rand.New(rand.NewSource(32))
	met := map[api.Errno]int{}
	for range 600 {
		l := someEntries(r, r.Intn(4))
		if len(l) > 0 && r.Intn(8) == 0 {
			l[r.Intn(len(l))].Gen = 0
		}
		if len(l) > 0 && r.Intn(8) == 0 {
			l[r.Intn(len(l))].Bytes = make([]byte, 8190+r.Intn(10))
		}
		y := api.Lay{Size: r.Intn(1 << r.Intn(14)), Data: r.Intn(35), Parity: r.Intn(18)}
		b, e := tape.Write(l, y)
		want, wantE := plainWrite(l, y)
		if e != wantE || !sameRows(b, want) {
			t.Fatalf("Write by %v: %d blocks, %d; want %d, %d", y, len(b), e, len(want), wantE)
		}
		met[e]++
	}
	for _, e := range []api.Errno{api.OK, api.ErrArg, api.ErrLimit} {
		if met[e] < 20 {
			t.Error("met", met)
		}
	}
}

// P3: what is handed in stays, and is not kept; what is answered is new memory.
func TestTapeMemory(t *testing.T) {
	r := rand.New(rand.NewSource(33))
	for range 40 {
		l := someEntries(r, 1+r.Intn(5))
		stream, _ := plainStream(l)
		y := someLay(r, len(stream))
		want, _ := plainWrite(l, y)
		in, sameList := roomy(t, l, sameEntry, api.Entry{Name: "spare"})
		b, _ := tape.Write(in, y)
		again, _ := tape.Write(in, y)
		spoil(again...)
		sameList()
		for i := range b {
			if !bytes.Equal(b[i], want[i]) {
				t.Fatal("a block lies in another one, or in what was handed in")
			}
			spoil(b[i])
		}
		from, sameRow := roomy(t, want, bytes.Equal, []byte("spare"))
		var same []func()
		for i := range from {
			var check func()
			from[i], check = roomy(t, from[i], sameByte, 77)
			same = append(same, check)
		}
		got, _ := tape.Read(from)
		other, _ := tape.Read(from)
		for _, x := range other {
			spoil(x.Bytes)
		}
		sameRow()
		for i := range from {
			same[i]()
			spoil(from[i])
		}
		for i, x := range got {
			if !sameEntry(x, l[i]) {
				t.Fatal("an entry lies in another one, or in what was handed in")
			}
			spoil(x.Bytes)
		}
	}
}

// P6: nothing is kept: what is done between plays no part, be it done at the same time.
func TestNothingKept(t *testing.T) {
	r := rand.New(rand.NewSource(34))
	l := someEntries(r, 4)
	stream, _ := plainStream(l)
	y := someLay(r, len(stream))
	want := write(t, l, y)
	done := make(chan bool)
	for range 8 {
		go func() {
			b, _ := tape.Write(l, y)
			got, _ := tape.Read(b)
			done <- sameRows(b, want) && sameEntries(got, l)
		}()
	}
	for range 8 {
		if !<-done {
			t.Error("another answer")
		}
	}
}
