package bin_test

import (
	"bytes"
	"crypto/sha256"
	"math"
	"reflect"
	"slices"
	"testing"

	"aumbry/api"
	"aumbry/bin"
	"aumbry/disk"
	"aumbry/extent"
	"aumbry/pack"
)

// The signatures that the chapter lists.
var (
	_ func(*disk.Disk, *extent.Map) (*bin.Shelf, api.Errno) = bin.New
	_ func(*bin.Shelf, *pack.Packer) (api.Place, api.Errno) = (*bin.Shelf).Seal
	_ func(*bin.Shelf, api.Place) api.Errno                 = (*bin.Shelf).Claim
	_ func(*bin.Shelf, int) api.Errno                       = (*bin.Shelf).Free
	_ func(*bin.Shelf, int) (api.Bin, api.Errno)            = (*bin.Shelf).Head
	_ func(*bin.Shelf, int, int) ([]byte, api.Errno)        = (*bin.Shelf).Chunk
	_ func(*bin.Shelf) []api.Place                          = (*bin.Shelf).Places
	_ func(*bin.Shelf) int                                  = (*bin.Shelf).Fresh
	_ func(*bin.Shelf) int                                  = (*bin.Shelf).Used
)

// bench is a shelf, and what it stands on.
type bench struct {
	d *disk.Disk
	m *extent.Map
	s *bin.Shelf
}

// made is a shelf on a disk of so many sectors, whose map has those from from to to - 1.
func made(t *testing.T, sectors, from, to int) bench {
	t.Helper()
	d, e := disk.New(sectors)
	if e != api.OK {
		t.Fatal(e)
	}
	return on(t, d, from, to)
}

// on is a shelf without containers on a disk that there is.
func on(t *testing.T, d *disk.Disk, from, to int) bench {
	t.Helper()
	m, e := extent.New(from, to)
	if e != api.OK {
		t.Fatal(e)
	}
	s, e := bin.New(d, m)
	if s == nil || e != api.OK {
		t.Fatal("New", e)
	}
	return bench{d, m, s}
}

func packed(t *testing.T, id int, chunks ...string) *pack.Packer {
	t.Helper()
	p, e := pack.New(id, api.MaxWide)
	if e != api.OK {
		t.Fatal(e)
	}
	for _, c := range chunks {
		if _, e := p.Add([]byte(c)); e != api.OK {
			t.Fatal("Add", e)
		}
	}
	return p
}

// wide is a chunk with which alone a container takes so many sectors (six at most).
func wide(sectors int) string { return string(make([]byte, min(128*(sectors-1)-34, api.MaxChunk))) }

func place(id, at, n int) api.Place { return api.Place{Bin: id, Run: api.Run{At: at, N: n}} }

func run(at, n int) api.Run { return api.Run{At: at, N: n} }

func (b bench) seal(t *testing.T, id int, chunks ...string) api.Place {
	t.Helper()
	at, e := b.s.Seal(packed(t, id, chunks...))
	if e != api.OK {
		t.Fatalf("Seal of %d: %d", id, e)
	}
	return at
}

func wantErrno(t *testing.T, what string, got, want api.Errno) {
	t.Helper()
	if got != want {
		t.Errorf("%s: %d; want %d", what, got, want)
	}
}

// wantNoSeal: an error, and nothing of the shelf or of its map has changed.
func (b bench) wantNoSeal(t *testing.T, p *pack.Packer, want api.Errno) {
	t.Helper()
	places, free := b.s.Places(), b.m.Runs()
	if at, e := b.s.Seal(p); at != (api.Place{}) || e != want {
		t.Errorf("Seal: %v, %d; want %d", at, e, want)
	}
	if !slices.Equal(b.s.Places(), places) || !slices.Equal(b.m.Runs(), free) {
		t.Errorf("a Seal that has an error changes something: %v, %v", b.s.Places(), b.m.Runs())
	}
}

// wantPlaces: all containers, how many sectors they have, and the least number that is left.
func (b bench) wantPlaces(t *testing.T, want ...api.Place) {
	t.Helper()
	used, fresh := 0, 0
	for _, p := range want {
		used += p.Run.N
	}
	for slices.ContainsFunc(want, func(p api.Place) bool { return p.Bin == fresh }) {
		fresh++
	}
	if l := b.s.Places(); !slices.Equal(l, want) || b.s.Used() != used || b.s.Fresh() != fresh {
		t.Errorf("%v, %d, %d; want %v, %d, %d", l, b.s.Used(), b.s.Fresh(), want, used, fresh)
	}
}

func (b bench) wantFree(t *testing.T, want ...api.Run) {
	t.Helper()
	if l := b.m.Runs(); !slices.Equal(l, want) {
		t.Errorf("free are %v; want %v", l, want)
	}
}

// wantTold: a container tells these chunks, and no other one.
func (b bench) wantTold(t *testing.T, id, sectors int, chunks ...string) {
	t.Helper()
	said, e := b.s.Head(id)
	if e != api.OK || said.ID != id || said.Sectors != sectors || len(said.Slots) != len(chunks) {
		t.Fatalf("Head(%d): %v, %d", id, said, e)
	}
	at := 128
	for slot, want := range chunks {
		if said.Slots[slot] != (api.Slot{Sum: sha256.Sum256([]byte(want)), At: at, Len: len(want)}) {
			t.Errorf("Head(%d), slot %d: %v", id, slot, said.Slots[slot])
		}
		at += len(want)
		if c, e := b.s.Chunk(id, slot); string(c) != want || e != api.OK {
			t.Errorf("Chunk(%d, %d): %q, %d; want %q", id, slot, c, e, want)
		}
	}
	for _, slot := range []int{-1, len(chunks), api.MaxSlots, math.MinInt, math.MaxInt} {
		b.wantNoChunk(t, id, slot, api.ErrGone)
	}
}

func (b bench) wantNoChunk(t *testing.T, id, slot int, want api.Errno) {
	t.Helper()
	if c, e := b.s.Chunk(id, slot); len(c) != 0 || e != want {
		t.Errorf("Chunk(%d, %d): % x, %d; want %d", id, slot, c, e, want)
	}
}

// wantNone: a container tells nothing, by that error.
func (b bench) wantNone(t *testing.T, id int, want api.Errno) {
	t.Helper()
	if said, e := b.s.Head(id); said.ID != 0 || said.Sectors != 0 || len(said.Slots) != 0 || e != want {
		t.Errorf("Head(%d): %v, %d; want %d", id, said, e, want)
	}
	for _, slot := range []int{0, 1, -1, api.MaxSlots, math.MinInt, math.MaxInt} {
		b.wantNoChunk(t, id, slot, want)
	}
}

// cutPower takes the disk's power.
func (b bench) cutPower(t *testing.T) {
	t.Helper()
	b.d.Trip(1)
	b.d.Flush()
	if !b.d.Down() {
		t.Fatal("there is power")
	}
}

func (b bench) wantSectors(t *testing.T, r api.Run, want []byte) {
	t.Helper()
	for i := range r.N {
		if got, e := b.d.Read(r.At + i); e != api.OK || !bytes.Equal(got, want[128*i:128*(i+1)]) {
			t.Errorf("the sector %d: % x, %d", r.At+i, got, e)
		}
	}
}

// P12.1
func TestNew(t *testing.T) {
	d, _ := disk.New(9)
	m, _ := extent.New(0, 9)
	for _, c := range []struct {
		d *disk.Disk
		m *extent.Map
	}{{nil, m}, {d, nil}, {nil, nil}} {
		if s, e := bin.New(c.d, c.m); s != nil || e != api.ErrNil {
			t.Error("of nil", s, e)
		}
	}
	b := on(t, d, 2, 9)
	b.wantPlaces(t)
	b.wantFree(t, run(2, 7))
	b.cutPower(t)
	on(t, d, 0, 0).wantPlaces(t)
	if len(d.Dirty()) != 0 {
		t.Error("written", d.Dirty())
	}
}

// The chapter's example.
func TestExample(t *testing.T) {
	b := made(t, 10, 3, 10)
	if at := b.seal(t, 7, "abc"); at != place(7, 3, 2) {
		t.Error(at)
	}
	b.wantTold(t, 7, 2, "abc")
}

// P12.2: the sectors are those that the map gives, and have the packer's bytes; nothing else is written, and nothing flushed.
func TestSeal(t *testing.T) {
	b := made(t, 80, 1, 80)
	b.d.Rot(0, []byte("ahead"))
	at := 1
	var places []api.Place
	for id, n := range []int{2, 6, 3, 2, 5, 4} {
		p := packed(t, id, wide(n))
		bytes := p.Bytes()
		got, e := b.s.Seal(p)
		if got != place(id, at, n) || e != api.OK {
			t.Fatalf("%v, %d; want %v", got, e, place(id, at, n))
		}
		b.wantSectors(t, got.Run, bytes)
		at += n
		places = append(places, got)
		b.wantPlaces(t, places...)
		b.wantFree(t, run(at, 80-at))
		if dirty := b.d.Dirty(); len(dirty) != at-1 || dirty[0] != 1 {
			t.Errorf("dirty are %v", dirty)
		}
		if p.Len() != 1 || len(p.Bytes()) != 128*n {
			t.Error("the packer is changed")
		}
	}
	b.wantSectors(t, run(0, 1), append([]byte("ahead"), make([]byte, 123)...))
	b.wantSectors(t, run(at, 1), make([]byte, 128))
	b.d.Crash(api.Crash{Torn: -1})
	b.wantNone(t, 0, api.ErrRot)
}

// P12.2: the greatest container, of 64 chunks and as many sectors.
func TestSealGreatest(t *testing.T) {
	b := made(t, 64, 0, 64)
	p := packed(t, api.MaxBins-1)
	var chunks []string
	for i := range api.MaxSlots {
		c := bytes.Repeat([]byte{byte(i)}, min(92, p.Room()))
		p.Add(c)
		chunks = append(chunks, string(c))
	}
	if at, e := b.s.Seal(p); at != place(api.MaxBins-1, 0, 64) || e != api.OK {
		t.Fatal(at, e)
	}
	b.wantTold(t, api.MaxBins-1, 64, chunks...)
	b.wantFree(t)
}

// P12.2: the first run that has room; what is sealed elsewhere meanwhile plays no part.
func TestSealFindsRoom(t *testing.T) {
	b := made(t, 20, 0, 20)
	b.m.Claim(run(2, 1))
	b.m.Claim(run(6, 1))
	if at := b.seal(t, 9, wide(4)); at.Run.At != 7 {
		t.Error(at)
	}
	if at := b.seal(t, 1, wide(3)); at.Run.At != 3 {
		t.Error(at)
	}
	if at := b.seal(t, 5, "x"); at.Run.At != 0 {
		t.Error(at)
	}
	b.wantPlaces(t, place(1, 3, 3), place(5, 0, 2), place(9, 7, 4))
	b.wantFree(t, run(11, 9))
}

// P12.2, P2: the errors, and which is named first.
func TestSealErrors(t *testing.T) {
	b := made(t, 5, 0, 5)
	b.seal(t, 3, "x")
	b.wantNoSeal(t, nil, api.ErrNil)
	b.wantNoSeal(t, packed(t, 4), api.ErrArg)
	b.wantNoSeal(t, packed(t, 3), api.ErrArg)
	b.wantNoSeal(t, packed(t, 3, "y"), api.ErrKnown)
	b.wantNoSeal(t, packed(t, 3, wide(4)), api.ErrKnown)
	b.wantNoSeal(t, packed(t, 4, wide(4)), api.ErrSpace)
	b.wantNoSeal(t, new(pack.Packer), api.ErrArg)
	b.cutPower(t)
	b.wantNoSeal(t, nil, api.ErrNil)
	for _, p := range []*pack.Packer{packed(t, 4), packed(t, 3), packed(t, 3, "y"), packed(t, 4, wide(4)), packed(t, 4, "y")} {
		b.wantNoSeal(t, p, api.ErrDown)
	}
	b.d.Crash(api.Crash{})
	b.seal(t, 4, wide(3))
	b.wantNoSeal(t, packed(t, 5, "y"), api.ErrSpace)
	b.wantFree(t)
}

// P12.2: an error ahead of the writes writes nothing, and is no step towards a trip.
func TestSealErrorWritesNothing(t *testing.T) {
	b := made(t, 6, 0, 6)
	b.seal(t, 3, "x")
	b.d.Flush()
	b.d.Trip(1)
	for _, p := range []*pack.Packer{nil, packed(t, 4), packed(t, 3, "y"), packed(t, 4, wide(5))} {
		b.s.Seal(p)
	}
	if len(b.d.Dirty()) != 0 || b.d.Down() {
		t.Error("written", b.d.Dirty())
	}
}

// P12.2: a Write's error: the sectors are given again; those ahead of it were written, in order.
func TestSealBrokenOff(t *testing.T) {
	for trip := 1; trip <= 6; trip++ {
		b := made(t, 20, 2, 20)
		b.seal(t, 1, "x")
		b.d.Flush()
		p := packed(t, 8, wide(5))
		b.d.Trip(trip)
		if trip == 6 {
			// All five writes are done, and no flush with them.
			b.seal(t, 8, wide(5))
			if b.d.Down() || b.d.Flush() != api.ErrDown {
				t.Error("more steps than five writes")
			}
			continue
		}
		b.wantNoSeal(t, p, api.ErrDown)
		b.wantPlaces(t, place(1, 2, 2))
		b.wantFree(t, run(4, 16))
		var dirty []int
		for i := range trip - 1 {
			dirty = append(dirty, 4+i)
		}
		if !slices.Equal(b.d.Dirty(), dirty) {
			t.Errorf("dirty are %v; want %v", b.d.Dirty(), dirty)
		}
		b.wantNone(t, 8, api.ErrGone)
		b.wantNone(t, 1, api.ErrDown)
		b.d.Crash(api.Crash{Torn: -1})
		if at, e := b.s.Seal(p); at != place(8, 4, 5) || e != api.OK {
			t.Errorf("sealed anew: %v, %d", at, e)
		}
		b.wantTold(t, 8, 5, wide(5))
		b.wantTold(t, 1, 2, "x")
	}
}

// P12.2: a map may have sectors that the disk has not.
func TestSealBeyondTheDisk(t *testing.T) {
	b := made(t, 5, 2, 40)
	b.wantNoSeal(t, packed(t, 1, wide(4)), api.ErrArg)
	b.wantPlaces(t)
	b.wantFree(t, run(2, 38))
	b.d.Trip(1)
	b.wantNoSeal(t, packed(t, 1, wide(4)), api.ErrDown)
	b.d.Crash(api.Crash{})
	b.seal(t, 1, wide(3))
	b.wantTold(t, 1, 3, wide(3))
	b.wantNoSeal(t, packed(t, 2, "x"), api.ErrArg)
}

// P12.2, P3: a packer is not kept: what becomes of it plays no part.
func TestSealKeepsNoPacker(t *testing.T) {
	b := made(t, 20, 0, 20)
	p := packed(t, 4, "one")
	b.s.Seal(p)
	p.Add([]byte("two"))
	b.wantTold(t, 4, 2, "one")
	b.wantNoSeal(t, p, api.ErrKnown)
	if b.s.Free(4) != api.OK {
		t.Error("Free")
	}
	if at, e := b.s.Seal(p); at != place(4, 0, 2) || e != api.OK {
		t.Error(at, e)
	}
	b.wantTold(t, 4, 2, "one", "two")
}

// P12.2: what may be claimed.
func TestClaim(t *testing.T) {
	b := made(t, 200, 10, 200)
	for _, p := range []api.Place{place(4, 10, 2), place(0, 100, api.MaxWide), place(api.MaxBins-1, 198, 2), place(2, 50, 3)} {
		wantErrno(t, "Claim", b.s.Claim(p), api.OK)
	}
	b.wantPlaces(t, place(0, 100, 64), place(2, 50, 3), place(4, 10, 2), place(api.MaxBins-1, 198, 2))
	b.wantFree(t, run(12, 38), run(53, 47), run(164, 34))
	if len(b.d.Dirty()) != 0 {
		t.Error("written", b.d.Dirty())
	}
	b.wantNone(t, 2, api.ErrRot)
}

// P12.2, P2, P5: the errors of Claim, and which is named first; no number goes round.
func TestClaimErrors(t *testing.T) {
	b := made(t, 200, 10, 200)
	b.seal(t, 3, "x")
	for _, c := range []struct {
		p    api.Place
		want api.Errno
	}{
		{place(-1, 20, 2), api.ErrArg}, {place(api.MaxBins, 20, 2), api.ErrArg}, {place(math.MinInt, 20, 2), api.ErrArg}, {place(math.MaxInt, 20, 2), api.ErrArg},
		{place(1, 20, 1), api.ErrArg}, {place(1, 20, 0), api.ErrArg}, {place(1, 20, -1), api.ErrArg}, {place(1, 20, 65), api.ErrArg}, {place(1, 20, math.MaxInt), api.ErrArg}, {place(1, 20, math.MinInt), api.ErrArg},
		{place(3, 20, 1), api.ErrArg}, {place(3, 20, 65), api.ErrArg}, {place(-1, 10, 2), api.ErrArg}, {place(1, 10, 1), api.ErrArg},
		{place(3, 20, 2), api.ErrKnown}, {place(3, 10, 2), api.ErrKnown}, {place(3, 9, 2), api.ErrKnown}, {place(3, -5, 2), api.ErrKnown}, {place(3, math.MaxInt, 2), api.ErrKnown},
		{place(1, 9, 2), api.ErrArg}, {place(1, 199, 2), api.ErrArg}, {place(1, 200, 2), api.ErrArg}, {place(1, -1, 2), api.ErrArg}, {place(1, math.MaxInt, 2), api.ErrArg}, {place(1, math.MaxInt-1, 64), api.ErrArg}, {place(1, math.MinInt, 64), api.ErrArg}, {place(1, 137, 64), api.ErrArg},
		{place(1, 10, 2), api.ErrKnown}, {place(1, 11, 2), api.ErrKnown}, {place(1, 10, 64), api.ErrKnown},
	} {
		if e := b.s.Claim(c.p); e != c.want {
			t.Errorf("Claim(%v): %d; want %d", c.p, e, c.want)
		}
		b.wantPlaces(t, place(3, 10, 2))
		b.wantFree(t, run(12, 188))
	}
	b.wantTold(t, 3, 2, "x")
}

// P12.2: the disk plays no part in a Claim or a Free.
func TestClaimWithoutPower(t *testing.T) {
	b := made(t, 8, 0, 40)
	b.cutPower(t)
	wantErrno(t, "Claim", b.s.Claim(place(1, 2, 2)), api.OK)
	wantErrno(t, "Claim", b.s.Claim(place(2, 30, 2)), api.OK)
	b.wantPlaces(t, place(1, 2, 2), place(2, 30, 2))
	wantErrno(t, "Free", b.s.Free(1), api.OK)
	b.wantPlaces(t, place(2, 30, 2))
	b.wantFree(t, run(0, 30), run(32, 8))
}

// P12.2
func TestFree(t *testing.T) {
	b := made(t, 30, 4, 30)
	for id := range 4 {
		b.seal(t, 2*id, "chunk", string(rune('a'+id)))
	}
	for _, id := range []int{-1, 1, 3, 8, api.MaxBins, math.MinInt, math.MaxInt} {
		wantErrno(t, "Free", b.s.Free(id), api.ErrGone)
		b.wantNone(t, id, api.ErrGone)
	}
	b.wantPlaces(t, place(0, 4, 2), place(2, 6, 2), place(4, 8, 2), place(6, 10, 2))
	wantErrno(t, "Free", b.s.Free(2), api.OK)
	wantErrno(t, "Free", b.s.Free(2), api.ErrGone)
	b.wantNone(t, 2, api.ErrGone)
	b.wantPlaces(t, place(0, 4, 2), place(4, 8, 2), place(6, 10, 2))
	b.wantFree(t, run(6, 2), run(12, 18))
	wantErrno(t, "Free", b.s.Free(6), api.OK)
	wantErrno(t, "Free", b.s.Free(0), api.OK)
	b.wantFree(t, run(4, 4), run(10, 20))
	b.wantTold(t, 4, 2, "chunk", "c")
	if at := b.seal(t, 2, wide(3)); at != place(2, 4, 3) {
		t.Error(at)
	}
	b.wantPlaces(t, place(2, 4, 3), place(4, 8, 2))
	b.wantTold(t, 4, 2, "chunk", "c")
}

// P12.2: a container whose sectors someone else gave already is gone all the same.
func TestFreeGiven(t *testing.T) {
	b := made(t, 30, 0, 30)
	at := b.seal(t, 1, "x")
	b.m.Give(at.Run)
	wantErrno(t, "Free", b.s.Free(1), api.OK)
	b.wantPlaces(t)
	b.wantFree(t, run(0, 30))
	b.wantNone(t, 1, api.ErrGone)
}

// P12.1: the least number that is none of a container; -1, where all are. (As many containers lie on no disk: their sectors are given by the map's own call.)
func TestFresh(t *testing.T) {
	b := made(t, 4, 0, 4)
	for id := range api.MaxBins {
		if b.s.Fresh() != id {
			t.Fatalf("%d; want %d", b.s.Fresh(), id)
		}
		wantErrno(t, "Claim", b.s.Claim(place(id, 1, 3)), api.OK)
		b.m.Give(run(1, 3))
	}
	if b.s.Fresh() != -1 || b.s.Used() != 3*api.MaxBins || len(b.s.Places()) != api.MaxBins {
		t.Error(b.s.Fresh(), b.s.Used())
	}
	b.wantNoSeal(t, packed(t, 77, "x"), api.ErrKnown)
	for _, c := range [][2]int{{api.MaxBins - 1, api.MaxBins - 1}, {700, 700}, {701, 700}, {0, 0}} {
		b.s.Free(c[0])
		if b.s.Fresh() != c[1] {
			t.Errorf("%d is free: %d; want %d", c[0], b.s.Fresh(), c[1])
		}
	}
	b.s.Claim(place(0, 0, 4))
	if b.s.Fresh() != 700 {
		t.Error(b.s.Fresh())
	}
}

// P12.1 to P12.3, P1: of nil.
func TestNil(t *testing.T) {
	var s *bin.Shelf
	for _, p := range []*pack.Packer{nil, packed(t, 1), packed(t, 1, "x")} {
		if at, e := s.Seal(p); at != (api.Place{}) || e != api.ErrNil {
			t.Error("Seal", at, e)
		}
	}
	for _, n := range []int{0, 2, -1, math.MinInt, math.MaxInt} {
		wantErrno(t, "Claim", s.Claim(place(n, n, n)), api.ErrNil)
		wantErrno(t, "Free", s.Free(n), api.ErrNil)
		bench{s: s}.wantNone(t, n, api.ErrNil)
	}
	if s.Fresh() != -1 || s.Used() != 0 || len(s.Places()) != 0 {
		t.Error("nil tells something")
	}
}

// P1: what a shelf stands on lends it none of its calls, as these would panic of nil.
func TestCallsOfTheChapterAlone(t *testing.T) {
	var l []string
	for m := range reflect.TypeFor[*bin.Shelf]().Methods() {
		l = append(l, m.Name)
	}
	if want := []string{"Chunk", "Claim", "Free", "Fresh", "Head", "Places", "Seal", "Used"}; !slices.Equal(l, want) {
		t.Errorf("%v; want %v", l, want)
	}
}

// P1: structs that no call made only do not panic.
func TestNotMade(t *testing.T) {
	shelves := []*bin.Shelf{new(bin.Shelf)}
	if s, e := bin.New(new(disk.Disk), new(extent.Map)); e == api.OK {
		shelves = append(shelves, s)
	}
	for _, s := range shelves {
		s.Seal(packed(t, 1, "x"))
		s.Seal(new(pack.Packer))
		s.Claim(place(1, 0, 2))
		s.Claim(place(1, 0, 0))
		s.Head(1)
		s.Chunk(1, 0)
		s.Free(1)
		s.Places()
		s.Fresh()
		s.Used()
	}
}

// P3: what is answered is new memory, with the room behind it.
func TestMemory(t *testing.T) {
	b := made(t, 30, 0, 30)
	b.seal(t, 1, "one", "two")
	b.seal(t, 5, "five")
	l := b.s.Places()
	full := l[:cap(l)]
	clear(full)
	said, _ := b.s.Head(1)
	clear(said.Slots[:cap(said.Slots)])
	c, _ := b.s.Chunk(1, 1)
	for i := range c[:cap(c)] {
		c[:cap(c)][i] = 0xee
	}
	b.wantTold(t, 1, 2, "one", "two")
	b.wantPlaces(t, place(1, 0, 2), place(5, 2, 2))
	b.seal(t, 3, "three")
	b.s.Free(1)
	if slices.ContainsFunc(full, func(p api.Place) bool { return p != api.Place{} }) {
		t.Error("an answer is changed by a Seal")
	}
}

// P4, P6: shelves know nothing of each other; one on forks of a disk and a map changes nothing of those.
func TestApart(t *testing.T) {
	b := made(t, 30, 0, 30)
	b.seal(t, 1, "one")
	d, m := b.d.Fork(), b.m.Fork()
	s, e := bin.New(d, m)
	if e != api.OK {
		t.Fatal(e)
	}
	f := bench{d, m, s}
	f.wantPlaces(t)
	f.wantNone(t, 1, api.ErrGone)
	if at := f.seal(t, 1, "other"); at != place(1, 2, 2) {
		t.Error(at)
	}
	b.wantPlaces(t, place(1, 0, 2))
	b.wantFree(t, run(2, 28))
	b.wantTold(t, 1, 2, "one")
	b.seal(t, 2, "two")
	f.wantTold(t, 1, 2, "other")
	f.wantNone(t, 2, api.ErrGone)
	// Two shelves of one disk and one map take no sector twice.
	s, _ = bin.New(b.d, b.m)
	g := bench{b.d, b.m, s}
	if at := g.seal(t, 1, "third"); at != place(1, 4, 2) {
		t.Error(at)
	}
	wantErrno(t, "Claim", g.s.Claim(place(2, 2, 2)), api.ErrKnown)
	b.wantTold(t, 1, 2, "one")
	g.wantTold(t, 1, 2, "third")
}
