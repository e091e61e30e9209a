package pack_test

import (
	"bytes"
	"crypto/sha256"
	"fmt"
	"math"
	"math/rand"
	"slices"
	"testing"

	"aumbry/api"
	"aumbry/pack"
)

// The signatures that the chapter lists.
var (
	_ func(int, int) (*pack.Packer, api.Errno)           = pack.New
	_ func(*pack.Packer, []byte) (int, api.Errno)        = (*pack.Packer).Add
	_ func(*pack.Packer, int) ([]byte, api.Errno)        = (*pack.Packer).Chunk
	_ func(*pack.Packer) int                             = (*pack.Packer).Len
	_ func(*pack.Packer) int                             = (*pack.Packer).Room
	_ func(*pack.Packer) []api.Sum                       = (*pack.Packer).Sums
	_ func(*pack.Packer) []byte                          = (*pack.Packer).Bytes
	_ func(*pack.Packer) *pack.Packer                    = (*pack.Packer).Fork
	_ func([]byte) (api.Bin, api.Errno)                  = pack.Parse
	_ func(b []byte, s api.Slot) (c []byte, e api.Errno) = pack.Chunk
)

func made(t *testing.T, id, sectors int) *pack.Packer {
	t.Helper()
	p, e := pack.New(id, sectors)
	if p == nil || e != api.OK {
		t.Fatalf("New(%d, %d): %d", id, sectors, e)
	}
	return p
}

func add(t *testing.T, p *pack.Packer, chunks ...[]byte) {
	t.Helper()
	for _, c := range chunks {
		was := p.Len()
		if slot, e := p.Add(c); slot != was || e != api.OK {
			t.Fatalf("Add of %d bytes: %d, %d; want %d", len(c), slot, e, was)
		}
	}
}

func wantAdd(t *testing.T, p *pack.Packer, n int, want api.Errno) {
	t.Helper()
	before := fmt.Sprint(p.Len(), p.Room(), p.Bytes())
	if slot, e := p.Add(make([]byte, n)); slot != 0 || e != want {
		t.Errorf("Add of %d bytes: %d, %d; want %d", n, slot, e, want)
	}
	if fmt.Sprint(p.Len(), p.Room(), p.Bytes()) != before {
		t.Errorf("an Add of %d bytes that has an error changes something", n)
	}
}

// wantPacked: all calls tell these chunks.
func wantPacked(t *testing.T, p *pack.Packer, id int, chunks ...[]byte) {
	t.Helper()
	if p.Len() != len(chunks) {
		t.Fatalf("%d chunks; want %d", p.Len(), len(chunks))
	}
	var sums []api.Sum
	for slot, c := range chunks {
		sums = append(sums, sha256.Sum256(c))
		if b, e := p.Chunk(slot); !bytes.Equal(b, c) || e != api.OK {
			t.Errorf("Chunk(%d): % x, %d; want % x", slot, b, e, c)
		}
	}
	if !slices.Equal(p.Sums(), sums) {
		t.Errorf("Sums: %x; want %x", p.Sums(), sums)
	}
	if b := p.Bytes(); !bytes.Equal(b, imageOf(id, chunks...).bytes()) {
		t.Errorf("Bytes: % x", b)
	}
	for _, slot := range []int{-1, len(chunks), len(chunks) + 1, api.MaxSlots, math.MinInt, math.MaxInt} {
		if b, e := p.Chunk(slot); len(b) != 0 || e != api.ErrGone {
			t.Errorf("Chunk(%d): % x, %d", slot, b, e)
		}
	}
}

// P11.1
func TestNewWrong(t *testing.T) {
	right := [][2]int{{0, api.MinWide}, {api.MaxBins - 1, api.MaxWide}}
	for _, c := range right {
		for _, id := range []int{-1, -2, api.MaxBins, api.MaxBins + 1, math.MinInt, math.MaxInt} {
			if p, e := pack.New(id, c[1]); p != nil || e != api.ErrArg {
				t.Errorf("New(%d, %d): %v, %d", id, c[1], p, e)
			}
		}
		for _, sectors := range []int{-1, 0, 1, 2, api.MinWide - 1, api.MaxWide + 1, math.MinInt, math.MaxInt} {
			if p, e := pack.New(c[0], sectors); p != nil || e != api.ErrArg {
				t.Errorf("New(%d, %d): %v, %d", c[0], sectors, p, e)
			}
		}
	}
	if p, e := pack.New(-1, 0); p != nil || e != api.ErrArg {
		t.Error("both wrong", p, e)
	}
}

// P11.1, P11.2: a packer without chunks.
func TestNew(t *testing.T) {
	for _, id := range []int{0, 1, 255, 256, api.MaxBins - 1} {
		for sectors := api.MinWide; sectors <= api.MaxWide; sectors++ {
			p := made(t, id, sectors)
			wantPacked(t, p, id)
			if room := min(512, 128*sectors-128-34); p.Room() != room {
				t.Errorf("of %d sectors: Room %d; want %d", sectors, p.Room(), room)
			}
		}
	}
}

// The chapter's example.
func TestExample(t *testing.T) {
	p := made(t, 7, 4)
	add(t, p, []byte("abc"))
	b := p.Bytes()
	if want := []byte{0x42, 0x49, 0x4e, 0x31, 0, 0, 0, 7, 0, 1, 0, 0, 0, 3}; !bytes.HasPrefix(b, want) || len(b) != 256 {
		t.Errorf("%d bytes: % x", len(b), b)
	}
	wantPacked(t, p, 7, []byte("abc"))
}

// P11.1, P11.2, P11.5: all lengths that a chunk may have, and several chunks, some of them alike.
func TestPacked(t *testing.T) {
	r := rand.New(rand.NewSource(1))
	for n := 1; n <= api.MaxChunk; n++ {
		p, c := made(t, n, 16), text(r, n)
		add(t, p, c)
		wantPacked(t, p, n, c)
	}
	for seed := range int64(100) {
		r := rand.New(rand.NewSource(seed))
		id, sectors := r.Intn(api.MaxBins), api.MinWide+r.Intn(api.MaxWide-api.MinWide+1)
		p := made(t, id, sectors)
		var chunks [][]byte
		for _, n := range lengths(r, 80, []int{3, 90, api.MaxChunk}[seed%3]) {
			c := text(r, n)
			if r.Intn(4) == 0 && len(chunks) > 0 {
				c = chunks[r.Intn(len(chunks))]
			}
			if len(c) > p.Room() {
				continue
			}
			add(t, p, c)
			chunks = append(chunks, c)
		}
		wantPacked(t, p, id, chunks...)
	}
}

// P11.1, P2: ErrArg is named ahead of ErrLimit, that ahead of ErrSpace; with an error nothing has changed.
func TestAddWrong(t *testing.T) {
	wrong := []int{0, api.MaxChunk + 1, api.MaxChunk + 2, 1 << 16}
	p := made(t, 5, 64)
	for _, n := range wrong {
		wantAdd(t, p, n, api.ErrArg)
	}
	if slot, e := p.Add(nil); slot != 0 || e != api.ErrArg {
		t.Error("Add of nil", slot, e)
	}
	for range api.MaxSlots {
		add(t, p, []byte("x"))
	}
	for _, n := range wrong {
		wantAdd(t, p, n, api.ErrArg)
	}
	for _, n := range []int{1, 2, api.MaxChunk} {
		wantAdd(t, p, n, api.ErrLimit)
	}
	if p.Room() != 0 {
		t.Error("Room of MaxSlots chunks", p.Room())
	}
}

// P11.1: 64 chunks of two bytes, their rows and a head are 19 sectors just so.
func TestAddFillsAll(t *testing.T) {
	p := made(t, 5, 19)
	for i := range api.MaxSlots - 1 {
		add(t, p, []byte{byte(i), 1})
	}
	if p.Room() != 2 {
		t.Error("Room", p.Room())
	}
	wantAdd(t, p, 3, api.ErrSpace)
	wantAdd(t, p, api.MaxChunk, api.ErrSpace)
	wantAdd(t, p, api.MaxChunk+1, api.ErrArg)
	add(t, p, []byte{9, 9})
	if len(p.Bytes()) != 19*128 || p.Room() != 0 {
		t.Error("not full", len(p.Bytes()), p.Room())
	}
	// There is neither a slot nor a sector.
	wantAdd(t, p, 1, api.ErrLimit)
	wantAdd(t, p, 0, api.ErrArg)
}

// P11.1: where less than a row is left, or just a row, or a row and one byte.
func TestRoomAtTheEnd(t *testing.T) {
	for left := range 40 {
		p := made(t, 1, 4)
		add(t, p, make([]byte, 4*128-128-34-left))
		room := max(0, left-34)
		if p.Room() != room {
			t.Errorf("%d bytes are left: Room %d; want %d", left, p.Room(), room)
		}
		wantAdd(t, p, room+1, api.ErrSpace)
		if len(p.Bytes()) != 512 {
			t.Errorf("%d bytes are left: %d", left, len(p.Bytes()))
		}
	}
}

// P11.6, and P11.1 of Room: as the words reckon it, behind any chunks.
func TestRoom(t *testing.T) {
	for sectors := api.MinWide; sectors <= api.MaxWide; sectors++ {
		r := rand.New(rand.NewSource(int64(sectors)))
		most := []int{4, 120, api.MaxChunk}[sectors%3]
		p, size := made(t, 3, sectors), 128
		for _, n := range lengths(r, 100, most) {
			room := 0
			if p.Len() < 64 {
				room = min(512, max(0, 128*sectors-size-34))
			}
			if p.Room() != room {
				t.Fatalf("Room %d; want %d", p.Room(), room)
			}
			wantRoom(t, p, sectors)
			if n <= room {
				add(t, p, make([]byte, n))
				size += n + 34
			}
		}
	}
}

// wantRoom: a chunk of Room bytes can be added, one more byte can't.
func wantRoom(t *testing.T, p *pack.Packer, sectors int) {
	t.Helper()
	if one, e := p.Fork().Add(make([]byte, p.Room()+1)); one != 0 || e == api.OK {
		t.Fatalf("a chunk of %d bytes finds room", p.Room()+1)
	}
	f := p.Fork()
	if p.Room() > 0 {
		add(t, f, make([]byte, p.Room()))
	}
	for _, x := range []*pack.Packer{p, f} {
		n := len(x.Bytes())
		size := 128
		for slot := range x.Len() {
			c, _ := x.Chunk(slot)
			size += len(c) + 34
		}
		if n%128 != 0 || n > 128*sectors || n < size || n >= size+128 {
			t.Fatalf("%d bytes take %d, of %d sectors", size, n, sectors)
		}
	}
}

// P11.2, P1: of nil.
func TestNil(t *testing.T) {
	var p *pack.Packer
	for _, n := range []int{0, 1, api.MaxChunk, api.MaxChunk + 1} {
		if slot, e := p.Add(make([]byte, n)); slot != 0 || e != api.ErrNil {
			t.Error("Add", slot, e)
		}
	}
	for _, slot := range []int{0, -1, math.MaxInt, math.MinInt} {
		if b, e := p.Chunk(slot); len(b) != 0 || e != api.ErrNil {
			t.Error("Chunk", b, e)
		}
	}
	if p.Len() != 0 || p.Room() != 0 || len(p.Sums()) != 0 || len(p.Bytes()) != 0 || p.Fork() != nil {
		t.Error("nil tells something")
	}
}

// P1: a struct that no call made only does not panic.
func TestNotMade(t *testing.T) {
	p := new(pack.Packer)
	p.Add(nil)
	p.Add([]byte("abc"))
	p.Add(make([]byte, api.MaxChunk))
	p.Chunk(0)
	p.Room()
	p.Sums()
	pack.Parse(p.Bytes())
	if f := p.Fork(); f.Len() != p.Len() {
		t.Error("a fork of one that no call made is unlike")
	}
}

// P11.2, P4
func TestFork(t *testing.T) {
	a, b, c, d := []byte("aa"), []byte("b"), []byte("ccc"), []byte("dddd")
	p := made(t, 9, 4)
	add(t, p, a, b)
	f := p.Fork()
	if f == p {
		t.Fatal("a fork is itself")
	}
	wantPacked(t, f, 9, a, b)
	if f.Room() != p.Room() {
		t.Error("Room", f.Room(), p.Room())
	}
	add(t, f, c)
	wantPacked(t, p, 9, a, b)
	add(t, p, d, a)
	wantPacked(t, f, 9, a, b, c)
	wantPacked(t, p, 9, a, b, d, a)
	g := f.Fork()
	add(t, f, d)
	add(t, g, b)
	wantPacked(t, f, 9, a, b, c, d)
	wantPacked(t, g, 9, a, b, c, b)
}

// P4: forks that go on from any number of chunks, whatever room a list has behind its end.
func TestForksGoOn(t *testing.T) {
	p := made(t, 1, 64)
	var chunks [][]byte
	for i := range 20 {
		f, g := p.Fork(), p.Fork()
		add(t, f, []byte("f"))
		add(t, g, []byte("gg"))
		wantPacked(t, f, 1, append(slices.Clone(chunks), []byte("f"))...)
		wantPacked(t, g, 1, append(slices.Clone(chunks), []byte("gg"))...)
		chunks = append(chunks, []byte{byte(i)})
		add(t, p, chunks[i])
	}
	wantPacked(t, p, 1, chunks...)
}

// P3: what is handed in stays as it is, with the room behind it, and is not kept.
func TestHandedIn(t *testing.T) {
	p := made(t, 1, 4)
	room := []byte("abcdefgh")
	add(t, p, room[:3])
	if string(room) != "abcdefgh" {
		t.Errorf("%q", room)
	}
	f := p.Fork()
	clear(room)
	wantPacked(t, p, 1, []byte("abc"))
	wantPacked(t, f, 1, []byte("abc"))
}

// P3: what is answered is new memory, with the room behind it.
func TestMemory(t *testing.T) {
	p := made(t, 1, 16)
	add(t, p, []byte("abc"), []byte("defg"))
	f := p.Fork()
	for _, x := range []*pack.Packer{p, f} {
		c, _ := x.Chunk(0)
		b, s := x.Bytes(), x.Sums()
		for _, l := range [][]byte{c[:cap(c)], b[:cap(b)]} {
			for i := range l {
				l[i] = 0xee
			}
		}
		clear(s[:cap(s)])
		wantPacked(t, p, 1, []byte("abc"), []byte("defg"))
		wantPacked(t, f, 1, []byte("abc"), []byte("defg"))
	}
	b := p.Bytes()
	kept := slices.Clone(b[:cap(b)])
	add(t, p, []byte("more"))
	p.Bytes()
	if !bytes.Equal(b[:cap(b)], kept) {
		t.Error("an answer is changed by an Add")
	}
}

// P6: packers know nothing of each other, and tell the same twice.
func TestApart(t *testing.T) {
	p, q := made(t, 1, 4), made(t, 2, 5)
	add(t, p, []byte("a"))
	wantPacked(t, q, 2)
	add(t, q, []byte("b"), []byte("c"))
	for range 2 {
		wantPacked(t, p, 1, []byte("a"))
		wantPacked(t, q, 2, []byte("b"), []byte("c"))
	}
}
