package ingest_test

import (
	"crypto/sha256"
	"encoding/binary"
	"math"
	"slices"
	"testing"

	"aumbry/api"
	"aumbry/ingest"
	"aumbry/pack"
)

// The signatures that the chapter lists.
var (
	_ func(api.Tune) api.Errno                                                    = ingest.Check
	_ func(api.Tune) (*ingest.Index, api.Errno)                                   = ingest.New
	_ func(*ingest.Index, int, []api.Sum) api.Errno                               = (*ingest.Index).Learn
	_ func(*ingest.Index, int) api.Errno                                          = (*ingest.Index).Forget
	_ func(*ingest.Index, []api.Sum, func(bin int) ([]api.Sum, bool)) []api.Guess = (*ingest.Index).Seek
	_ func(*ingest.Index) api.Errno                                               = (*ingest.Index).Clear
	_ func(*ingest.Index) int                                                     = (*ingest.Index).Entries
	_ func(*ingest.Index) *ingest.Index                                           = (*ingest.Index).Fork
	_ func(api.Tune) int                                                          = ingest.Most
)

// usual is a tuning by which each sum is a hook.
func usual() api.Tune {
	return api.Tune{Cut: api.Cut{Min: 32, Avg: 64, Max: 256}, Seed: 7, Wide: 16, Seg: 16, Rate: 1, Bits: 1 << 14, Ways: 4, Hooks: 256, Each: 4, Cache: 4, Champs: 3}
}

func made(t *testing.T, tune api.Tune) *ingest.Index {
	t.Helper()
	x, e := ingest.New(tune)
	if x == nil || e != api.OK {
		t.Fatalf("New(%+v): %d", tune, e)
	}
	return x
}

// sum is a sum like those of chunks: no two numbers have the same.
func sum(n int) api.Sum { return sha256.Sum256(binary.BigEndian.AppendUint64(nil, uint64(n))) }

func sums(l ...int) []api.Sum {
	out := make([]api.Sum, 0, len(l))
	for _, n := range l {
		out = append(out, sum(n))
	}
	return out
}

// span is the sums of so many numbers from one on.
func span(from, n int) []api.Sum {
	var out []api.Sum
	for i := range n {
		out = append(out, sum(from+i))
	}
	return out
}

func learn(t *testing.T, x *ingest.Index, bin int, l ...int) {
	t.Helper()
	if e := x.Learn(bin, sums(l...)); e != api.OK {
		t.Fatalf("Learn(%d, %v): %d", bin, l, e)
	}
}

func forget(t *testing.T, x *ingest.Index, bin int) {
	t.Helper()
	if e := x.Forget(bin); e != api.OK {
		t.Fatalf("Forget(%d): %d", bin, e)
	}
}

func at(bin, slot int) api.Guess { return api.Guess{Is: true, Spot: api.Spot{Bin: bin, Slot: slot}} }

var nowhere = api.Guess{}

func wantGuesses(t *testing.T, got []api.Guess, want ...api.Guess) {
	t.Helper()
	if !slices.Equal(got, want) {
		t.Errorf("guessed %v; want %v", got, want)
	}
}

// store is what containers have: its head is what an index asks. It notes what it was asked.
type store struct {
	has   map[int][]api.Sum
	asked []int
}

func (s *store) head(bin int) ([]api.Sum, bool) {
	s.asked = append(s.asked, bin)
	l, is := s.has[bin]
	return l, is
}

func (s *store) wantAsked(t *testing.T, want ...int) {
	t.Helper()
	if !slices.Equal(s.asked, want) {
		t.Errorf("asked for %v; want %v", s.asked, want)
	}
	s.asked = nil
}

// field is a number of a tuning, and from where to where it may be.
type field struct {
	name        string
	of          func(*api.Tune) *int
	least, most int
}

var fields = []field{
	{"Cut.Min", func(t *api.Tune) *int { return &t.Cut.Min }, 1, 256},
	{"Seed", func(t *api.Tune) *int { return &t.Seed }, 0, api.MaxNum},
	{"Wide", func(t *api.Tune) *int { return &t.Wide }, 4, 64},
	{"Seg", func(t *api.Tune) *int { return &t.Seg }, 1, 64},
	{"Rate", func(t *api.Tune) *int { return &t.Rate }, 1, 256},
	{"Bits", func(t *api.Tune) *int { return &t.Bits }, 1, 1 << 16},
	{"Ways", func(t *api.Tune) *int { return &t.Ways }, 1, 8},
	{"Hooks", func(t *api.Tune) *int { return &t.Hooks }, 1, 4096},
	{"Each", func(t *api.Tune) *int { return &t.Each }, 1, 8},
	{"Cache", func(t *api.Tune) *int { return &t.Cache }, 1, 256},
	{"Champs", func(t *api.Tune) *int { return &t.Champs }, 1, 8},
}

// wantCheck: what Check, New and Most tell of a tuning.
func wantCheck(t *testing.T, tune api.Tune, want api.Errno) {
	t.Helper()
	x, e := ingest.New(tune)
	if c := ingest.Check(tune); c != want || e != want || (x != nil) != (want == api.OK) {
		t.Errorf("%+v: Check %d, New %d, an index: %v; want %d", tune, c, e, x != nil, want)
	}
	most := 0
	if want == api.OK {
		most = tune.Bits + tune.Hooks + 64*tune.Cache
	}
	if got := ingest.Most(tune); got != most {
		t.Errorf("Most(%+v): %d; want %d", tune, got, most)
	}
}

// P17.1, P17.2: each number at its bounds, and beyond them.
func TestCheckBounds(t *testing.T) {
	wantCheck(t, usual(), api.OK)
	for _, f := range fields {
		for _, n := range []int{f.least, f.least + 1, f.most - 1, f.most} {
			tune := usual()
			*f.of(&tune) = n
			wantCheck(t, tune, api.OK)
		}
		for _, n := range []int{f.least - 1, f.most + 1, -1, math.MinInt, math.MaxInt} {
			tune := usual()
			*f.of(&tune) = n
			wantCheck(t, tune, api.ErrArg)
		}
		if t.Failed() {
			t.Fatal(f.name)
		}
	}
}

// P17.1: of all numbers at once.
func TestCheckAll(t *testing.T) {
	least, most, none := usual(), usual(), api.Tune{}
	for _, f := range fields {
		*f.of(&least), *f.of(&most) = f.least, f.most
	}
	wantCheck(t, least, api.OK)
	wantCheck(t, most, api.OK)
	wantCheck(t, none, api.ErrArg)
}

// P17.1: by gear.Check.
func TestCheckCut(t *testing.T) {
	tune := usual()
	for _, c := range [][3]int{{1, 1, 1}, {1, 256, 512}, {512, 2, 512}, {4, 8, 40}} {
		tune.Cut = api.Cut{Min: c[0], Avg: c[1], Max: c[2]}
		wantCheck(t, tune, api.OK)
	}
	for _, c := range [][3]int{{}, {0, 1, 9}, {-1, 1, 9}, {9, 1, 8}, {1, 1, 513}, {1, 0, 9}, {1, 3, 9}, {1, 512, 9}, {1, -4, 9}, {math.MinInt, 1, math.MaxInt}, {1, 1, math.MaxInt}, {1, 1, 0}} {
		tune.Cut = api.Cut{Min: c[0], Avg: c[1], Max: c[2]}
		wantCheck(t, tune, api.ErrArg)
	}
}

// P17.1: has a container room for the longest chunk? Asked is the packer itself.
func TestCheckRoom(t *testing.T) {
	tune := usual()
	for wide := api.MinWide; wide <= api.MaxWide; wide++ {
		p, e := pack.New(0, wide)
		if e != api.OK {
			t.Fatal(e)
		}
		for longest := 1; longest <= api.MaxChunk; longest++ {
			tune.Wide, tune.Cut = wide, api.Cut{Min: 1, Avg: 1, Max: longest}
			want := api.OK
			if p.Room() < longest {
				want = api.ErrArg
			}
			if e := ingest.Check(tune); e != want {
				t.Fatalf("%d sectors, %d bytes: %d; want %d", wide, longest, e, want)
			}
		}
	}
	// 4 sectors, less a head and a row of the table.
	tune.Wide, tune.Cut.Max = 4, 350
	wantCheck(t, tune, api.OK)
	tune.Cut.Max = 351
	wantCheck(t, tune, api.ErrArg)
}

// P17.1: an index that knows nothing.
func TestNew(t *testing.T) {
	tune := usual()
	x, s := made(t, tune), &store{}
	if x.Entries() != tune.Bits {
		t.Error("entries", x.Entries())
	}
	wantGuesses(t, x.Seek(sums(1, 2), s.head), nowhere, nowhere)
	wantGuesses(t, x.Seek(nil, s.head))
	wantGuesses(t, x.Seek([]api.Sum{}, nil))
	s.wantAsked(t)
	forget(t, x, 0)
	if x.Clear() != api.OK || x.Entries() != tune.Bits {
		t.Error("cleared", x.Entries())
	}
}

// The chapter's example.
func TestExample(t *testing.T) {
	x := made(t, usual())
	learn(t, x, 3, 'a', 'b')
	wantGuesses(t, x.Seek(sums('b', 'c'), nil), at(3, 1), nowhere)
}

// P17.2, P2: ErrArg is named ahead of ErrLimit; with an error nothing has changed.
func TestLearnWrong(t *testing.T) {
	tune := usual()
	tune.Cache = 1
	x, s := made(t, tune), &store{}
	learn(t, x, 1, 10)
	for _, bin := range []int{-1, api.MaxBins, math.MinInt, math.MaxInt} {
		for _, l := range [][]api.Sum{nil, sums(5), span(100, 65)} {
			if e := x.Learn(bin, l); e != api.ErrArg {
				t.Errorf("Learn(%d) of %d sums: %d", bin, len(l), e)
			}
		}
	}
	for _, bin := range []int{0, 1, 2, api.MaxBins - 1} {
		for _, n := range []int{65, 66, 1000} {
			if e := x.Learn(bin, span(100, n)); e != api.ErrLimit {
				t.Errorf("Learn(%d) of %d sums: %d", bin, n, e)
			}
		}
	}
	if x.Entries() != tune.Bits+1+1 {
		t.Error("entries", x.Entries())
	}
	// Had the summary one of them, it would be guessed where the container that head tells has it.
	s.has = map[int][]api.Sum{2: span(100, 64)}
	x.Forget(1)
	learn(t, x, 2, 20)
	learn(t, x, 1, 10)
	wantGuesses(t, x.Seek(sums(100, 20, 164, 5), s.head), make([]api.Guess, 4)...)
	s.wantAsked(t, 2)
}

// P17.2: the first and the last container; no sums, and as many as there may be.
func TestLearnEdges(t *testing.T) {
	tune := usual()
	x := made(t, tune)
	if e := x.Learn(0, span(0, 64)); e != api.OK {
		t.Fatal(e)
	}
	learn(t, x, api.MaxBins-1, 500)
	learn(t, x, 8)
	if want := tune.Bits + 16 + 1 + 65; x.Entries() != want {
		t.Errorf("entries: %d; want %d", x.Entries(), want)
	}
	for slot := range 64 {
		wantGuesses(t, x.Seek(sums(slot), nil), at(0, slot))
	}
	wantGuesses(t, x.Seek(sums(500, 501), nil), at(api.MaxBins-1, 0), nowhere)
}

// P17.2: a container that is learnt anew has what it was learnt with last; its former hooks name it still.
func TestLearnAnew(t *testing.T) {
	x, s := made(t, usual()), &store{has: map[int][]api.Sum{1: sums(10, 12)}}
	learn(t, x, 1, 10, 11)
	learn(t, x, 1, 12, 10)
	wantGuesses(t, x.Seek(sums(10, 11, 12), s.head), at(1, 1), nowhere, at(1, 0))
	s.wantAsked(t)
	for bin := 2; bin < 6; bin++ {
		learn(t, x, bin, 10*bin)
	}
	wantGuesses(t, x.Seek(sums(11), s.head), nowhere)
	s.wantAsked(t, 1)
	wantGuesses(t, x.Seek(sums(12, 10), nil), at(1, 1), at(1, 0))
}

// P17.2: a sum that a container has twice is in its first slot, and is one hook.
func TestLearnTwice(t *testing.T) {
	tune := usual()
	x := made(t, tune)
	learn(t, x, 1, 10, 11, 10, 11)
	if x.Entries() != tune.Bits+2+4 {
		t.Error("entries", x.Entries())
	}
	wantGuesses(t, x.Seek(sums(11, 10, 11), nil), at(1, 1), at(1, 0), at(1, 1))
}

// P17.2: the hooks are those of Rate: of the others the table knows nothing.
func TestLearnRate(t *testing.T) {
	tune := usual()
	tune.Rate, tune.Cache = 3, 1
	hook, other := api.Sum{3: 6, 5: 1}, api.Sum{3: 7, 5: 1}
	x, s := made(t, tune), &store{has: map[int][]api.Sum{1: {other, hook}}}
	x.Learn(1, []api.Sum{other, hook})
	learn(t, x, 2)
	if x.Entries() != tune.Bits+1 {
		t.Error("entries", x.Entries())
	}
	wantGuesses(t, x.Seek([]api.Sum{other}, s.head), nowhere)
	s.wantAsked(t)
	wantGuesses(t, x.Seek([]api.Sum{other, hook}, s.head), at(1, 0), at(1, 1))
	s.wantAsked(t, 1)
}

// P17.2: hooks are put in order, so that of few entries the last ones stay.
func TestLearnOrder(t *testing.T) {
	tune := usual()
	tune.Hooks, tune.Cache = 2, 1
	x, s := made(t, tune), &store{has: map[int][]api.Sum{1: sums(10, 11, 12)}}
	learn(t, x, 1, 10, 11, 12)
	learn(t, x, 2)
	wantGuesses(t, x.Fork().Seek(sums(10), s.head), nowhere)
	s.wantAsked(t)
	for slot := 1; slot < 3; slot++ {
		wantGuesses(t, x.Fork().Seek(sums(10+slot), s.head), at(1, slot))
		s.wantAsked(t, 1)
	}
}

// P17.2: table and cache forget it; the summary does not.
func TestForget(t *testing.T) {
	tune := usual()
	x, s := made(t, tune), &store{has: map[int][]api.Sum{1: sums(10), 2: sums(20, 10)}}
	learn(t, x, 1, 10, 11)
	learn(t, x, 2, 20)
	forget(t, x, 1)
	if x.Entries() != tune.Bits+1+1 {
		t.Error("entries", x.Entries())
	}
	wantGuesses(t, x.Seek(sums(10, 11, 20), s.head), nowhere, nowhere, at(2, 0))
	s.wantAsked(t)
	for _, bin := range []int{1, 0, -1, api.MaxBins, math.MinInt, math.MaxInt} {
		forget(t, x, bin)
	}
	wantGuesses(t, x.Seek(sums(20), s.head), at(2, 0))
	// The summary has 10 still: where another container has it, it is found.
	for bin := 3; bin < 7; bin++ {
		learn(t, x, bin)
	}
	wantGuesses(t, x.Seek(sums(20, 10), s.head), at(2, 0), at(2, 1))
	s.wantAsked(t, 2)
	learn(t, x, 1, 10)
	wantGuesses(t, x.Seek(sums(10), nil), at(1, 0))
}

// P17.2: behind a Clear it knows nothing, and is as great as ever.
func TestClear(t *testing.T) {
	tune := usual()
	tune.Hooks, tune.Each, tune.Cache = 3, 2, 2
	x, s := made(t, tune), &store{has: map[int][]api.Sum{9: sums(10, 11)}}
	learn(t, x, 1, 10, 11)
	learn(t, x, 2, 20)
	if e := x.Clear(); e != api.OK || x.Entries() != tune.Bits {
		t.Fatal("cleared", e, x.Entries())
	}
	wantGuesses(t, x.Seek(sums(10, 20), s.head), nowhere, nowhere)
	s.wantAsked(t)
	// The summary knows nothing either: 10 is not guessed where 9 has it.
	learn(t, x, 9, 11)
	forget(t, x, 0)
	learn(t, x, 3, 30)
	learn(t, x, 4, 40)
	wantGuesses(t, x.Seek(sums(10, 11), s.head), nowhere, at(9, 1))
	s.wantAsked(t, 9)
	// As much room, and as many containers an entry.
	y, p := made(t, tune), &plain{tune: tune}
	y.Learn(7, sums(1))
	y.Clear()
	for bin := range 12 {
		learn(t, y, bin, bin%5, bin%3)
		p.learn(bin, sums(bin%5, bin%3))
		wantLike(t, y, p, 5)
	}
}

// P17.2, P17.3, P1: of nil.
func TestNil(t *testing.T) {
	var x *ingest.Index
	s := &store{}
	if x.Learn(1, nil) != api.ErrNil || x.Learn(-1, span(0, 65)) != api.ErrNil || x.Forget(1) != api.ErrNil || x.Clear() != api.ErrNil {
		t.Error("nil is changed")
	}
	if len(x.Seek(sums(1), s.head)) != 0 || len(x.Seek(nil, nil)) != 0 || x.Entries() != 0 || x.Fork() != nil {
		t.Error("nil tells something")
	}
	s.wantAsked(t)
}

// P1: a struct that no call made only does not panic.
func TestNotMade(t *testing.T) {
	x, s := new(ingest.Index), &store{}
	x.Clear()
	x.Learn(1, sums(1, 2))
	x.Forget(1)
	x.Learn(2, nil)
	x.Seek(sums(1), s.head)
	x.Seek(nil, nil)
	x.Clear()
	x.Entries()
	x.Fork().Learn(1, sums(1))
}

// P17.2, P4
func TestFork(t *testing.T) {
	tune := usual()
	tune.Hooks, tune.Each, tune.Cache = 3, 2, 2
	x, s := made(t, tune), &store{has: map[int][]api.Sum{1: sums(10), 2: sums(20), 3: sums(30)}}
	learn(t, x, 1, 10)
	learn(t, x, 2, 20)
	y := x.Fork()
	if x == y {
		t.Fatal("a fork is itself")
	}
	learn(t, y, 3, 30)
	if x.Entries() != tune.Bits+2+2 || y.Entries() != tune.Bits+3+2 {
		t.Error("entries", x.Entries(), y.Entries())
	}
	wantGuesses(t, x.Seek(sums(10, 20, 30), s.head), at(1, 0), at(2, 0), nowhere)
	s.wantAsked(t)
	// The fork's summary is its own: x has not learnt 30, so that it is not guessed where head tells it.
	s.has[1] = sums(30)
	learn(t, x, 4)
	learn(t, x, 5)
	wantGuesses(t, x.Seek(sums(10, 30), s.head), nowhere, nowhere)
	s.wantAsked(t, 1)
	wantGuesses(t, y.Seek(sums(30, 20), nil), at(3, 0), at(2, 0))
	z := y.Fork()
	y.Clear()
	forget(t, z, 2)
	wantGuesses(t, z.Seek(sums(30, 20), nil), at(3, 0), nowhere)
	wantGuesses(t, y.Seek(sums(30, 20), nil), nowhere, nowhere)
	wantGuesses(t, x.Fork().Seek(sums(20), s.head), at(2, 0))
}

// P6: indices know nothing of each other.
func TestApart(t *testing.T) {
	x, y := made(t, usual()), made(t, usual())
	learn(t, x, 1, 10)
	wantGuesses(t, y.Seek(sums(10), nil), nowhere)
	y.Clear()
	forget(t, y, 1)
	wantGuesses(t, x.Seek(sums(10), nil), at(1, 0))
}

// P3: what is handed in stays as it is, with the room behind it, and is not kept; what is told is new memory.
func TestMemory(t *testing.T) {
	tune := usual()
	tune.Cache = 1
	x := made(t, tune)
	room := sums(1, 2, 1, 3, 4, 5)
	kept := slices.Clone(room)
	if x.Learn(1, room[:4]) != api.OK || !slices.Equal(room, kept) {
		t.Error("Learn changed what was handed in")
	}
	clear(room)
	wantGuesses(t, x.Seek(sums(2, 3, 4), nil), at(1, 1), at(1, 3), nowhere)
	copy(room, kept)
	learn(t, x, 2, 9)
	told := sums(3, 2, 1, 7, 8)
	keptTold := slices.Clone(told)
	head := func(int) ([]api.Sum, bool) { return told[:3], true }
	first := x.Seek(room[:2], head)
	wantGuesses(t, first, at(1, 2), at(1, 1))
	if !slices.Equal(room, kept) || !slices.Equal(told, keptTold) {
		t.Error("Seek changed what was handed in, or told")
	}
	clear(told)
	second := x.Seek(room[:2], head)
	clear(first[:cap(first)])
	wantGuesses(t, second, at(1, 2), at(1, 1))
	wantGuesses(t, x.Seek(sums(3), nil), at(1, 0))
}
