package recipe_test

import (
	"math"
	"math/rand"
	"slices"
	"testing"

	"aumbry/api"
	"aumbry/recipe"
)

// The signatures that the chapter lists.
var (
	_ func([]api.Ref) api.Errno                               = recipe.Check
	_ func([]api.Ref) int                                     = recipe.Size
	_ func([]api.Ref) (*recipe.Recipe, api.Errno)             = recipe.New
	_ func(*recipe.Recipe) int                                = (*recipe.Recipe).Size
	_ func(*recipe.Recipe, int) (int, int, bool)              = (*recipe.Recipe).Find
	_ func(*recipe.Recipe, int, int) ([]api.Piece, api.Errno) = (*recipe.Recipe).Cut
	_ func(*recipe.Recipe) []api.Ref                          = (*recipe.Recipe).Refs
	_ func([]api.Ref, []api.Move) ([]api.Ref, int)            = recipe.Move
	_ func([]api.Ref) []api.Spot                              = recipe.Spots
	_ func([]api.Ref) []int                                   = recipe.Bins
)

// edges are numbers that a part of a ref may have, or may not: around each limit, and far off.
var edges = []int{math.MinInt, math.MinInt + 1, -512, -1, 0, 1, 2, 63, 64, 511, 512, 513, 4095, 4096, 1 << 32, 1<<32 + 1, math.MaxInt}

func ref(x byte, n, bin, slot int) api.Ref {
	return api.Ref{Sum: api.Sum{x, 31: x}, Len: n, Bin: bin, Slot: slot}
}

// chunks are refs of these lengths; no two of them lie in one spot.
func chunks(lens ...int) []api.Ref {
	var l []api.Ref
	for i, n := range lens {
		l = append(l, ref(byte(i), n, i/64, i%64))
	}
	return l
}

func made(t *testing.T, l []api.Ref) *recipe.Recipe {
	t.Helper()
	r, e := recipe.New(l)
	if r == nil || e != api.OK {
		t.Fatalf("New of %d refs: %v, %d", len(l), r, e)
	}
	return r
}

// wantRefused: Check and New tell an error.
func wantRefused(t *testing.T, l []api.Ref, want api.Errno) {
	t.Helper()
	if e := recipe.Check(l); e != want {
		t.Errorf("Check of %d refs, the last one %+v: %d, want %d", len(l), l[len(l)-1], e, want)
	}
	if r, e := recipe.New(l); r != nil || e != want {
		t.Errorf("New of %d refs, the last one %+v: %v, %d, want %d", len(l), l[len(l)-1], r, e, want)
	}
}

// wantRight: Check and New have no error, and the recipe has these refs.
func wantRight(t *testing.T, l []api.Ref) {
	t.Helper()
	if e := recipe.Check(l); e != api.OK {
		t.Errorf("Check of %d refs: %d", len(l), e)
	}
	size := 0
	for _, r := range l {
		size += r.Len
	}
	r := made(t, l)
	if !slices.Equal(r.Refs(), l) || r.Size() != size || recipe.Size(l) != size {
		t.Errorf("a recipe of %d refs: %d of %d bytes, want %d bytes; Size: %d", len(l), len(r.Refs()), r.Size(), size, recipe.Size(l))
	}
}

// P15.1: how many refs there may be.
func TestHowMany(t *testing.T) {
	wantRight(t, nil)
	wantRight(t, []api.Ref{})
	for _, n := range []int{1, 2, 63, 64, 65, 255, 256} {
		wantRight(t, slices.Repeat([]api.Ref{ref(1, 512, 4095, 63)}, n))
		wantRight(t, slices.Repeat([]api.Ref{ref(1, 1, 0, 0)}, n))
	}
	for _, n := range []int{257, 258, 512, 5000} {
		wantRefused(t, slices.Repeat([]api.Ref{ref(1, 512, 4095, 63)}, n), api.ErrLimit)
		// P2: that there are too many is told first.
		wantRefused(t, make([]api.Ref, n), api.ErrLimit)
	}
}

// P15.1: each part of a ref at all edges, wherever the ref stands.
func TestEachRight(t *testing.T) {
	for _, x := range []struct {
		at       func(*api.Ref) *int
		min, max int
	}{
		{func(r *api.Ref) *int { return &r.Len }, 1, 512},
		{func(r *api.Ref) *int { return &r.Bin }, 0, 4095},
		{func(r *api.Ref) *int { return &r.Slot }, 0, 63},
	} {
		for _, n := range edges {
			for _, many := range []int{1, 3, 256} {
				for _, i := range []int{0, many / 2, many - 1} {
					l := slices.Repeat([]api.Ref{ref(7, 5, 5, 5)}, many)
					*x.at(&l[i]) = n
					if n >= x.min && n <= x.max {
						wantRight(t, l)
						continue
					}
					wantRefused(t, l, api.ErrArg)
				}
			}
		}
	}
}

// P15.1: Size is of any refs, right or not, however many.
func TestSize(t *testing.T) {
	for _, x := range []struct {
		lens []int
		want int
	}{
		{nil, 0}, {[]int{0}, 0}, {[]int{3, 4}, 7}, {[]int{513, 0, 600}, 1113}, {[]int{5, -3}, 2}, {[]int{-3}, -3}, {[]int{-1, 1}, 0},
		{[]int{1 << 32, 1 << 31, 1 << 31}, 1 << 33}, {[]int{1<<32 - 1, 1}, 1 << 32}, {[]int{-1 << 32, -1}, -1<<32 - 1},
		{[]int{math.MaxInt}, math.MaxInt}, {[]int{math.MinInt}, math.MinInt}, {[]int{math.MaxInt - 1}, math.MaxInt - 1}, {[]int{math.MinInt + 1}, math.MinInt + 1}, {[]int{math.MaxInt - 1, 1}, math.MaxInt}, {[]int{math.MinInt + 1, -1}, math.MinInt},
		// P5: what no number can tell does not go round.
		{[]int{math.MaxInt, 1}, math.MaxInt}, {[]int{math.MaxInt, math.MaxInt, math.MaxInt}, math.MaxInt}, {[]int{math.MinInt, -1}, math.MinInt}, {[]int{math.MinInt, math.MinInt}, math.MinInt},
		{[]int{math.MaxInt, 1, -1}, math.MaxInt}, {[]int{math.MaxInt, math.MaxInt, math.MinInt, math.MinInt}, -2}, {[]int{math.MinInt, -5, math.MaxInt}, -6},
	} {
		if got := recipe.Size(chunks(x.lens...)); got != x.want {
			t.Errorf("Size of %v: %d, want %d", x.lens, got, x.want)
		}
	}
	if got := recipe.Size(slices.Repeat(chunks(512), 5000)); got != 512*5000 {
		t.Error("Size of 5000 refs", got)
	}
}

// bytesOf is all bytes of a recipe by the chapter's words: of each, in order, its chunk and how many stand ahead in that.
func bytesOf(l []api.Ref) [][2]int {
	var all [][2]int
	for i, r := range l {
		for k := range r.Len {
			all = append(all, [2]int{i, k})
		}
	}
	return all
}

// P15.2: each byte is found, and none beside.
func wantFinds(t *testing.T, l []api.Ref) {
	t.Helper()
	r, all := made(t, l), bytesOf(l)
	for offset, want := range all {
		if i, ahead, is := r.Find(offset); !is || i != want[0] || ahead != want[1] {
			t.Errorf("Find(%d): %d, %d, %v; want %v", offset, i, ahead, is, want)
		}
	}
	for _, offset := range []int{math.MinInt, -512, -1, len(all), len(all) + 1, 1 << 32, math.MaxInt} {
		if i, ahead, is := r.Find(offset); is || i != 0 || ahead != 0 {
			t.Errorf("Find(%d): %d, %d, %v", offset, i, ahead, is)
		}
	}
}

func TestFind(t *testing.T) {
	wantFinds(t, nil)
	for n := 1; n <= 12; n++ {
		wantFinds(t, slices.Repeat(chunks(1), n))
		wantFinds(t, slices.Repeat(chunks(n), 9-n/2))
	}
	wantFinds(t, chunks(512))
	wantFinds(t, chunks(3, 4))
	wantFinds(t, chunks(1, 512, 1, 1, 300, 2))
	wantFinds(t, slices.Repeat(chunks(512), 256))
}

// spread is the bytes of pieces, one behind the other, each as its chunk and how many stand ahead in that.
func spread(l []api.Piece) [][2]int {
	var all [][2]int
	for _, p := range l {
		for k := range p.N {
			all = append(all, [2]int{p.I, p.From + k})
		}
	}
	return all
}

// wantCut: the pieces are the bytes that were asked for (P15.2); none is without bytes, and no chunk stands in two of them (P15.4).
func wantCut(t *testing.T, r *recipe.Recipe, all [][2]int, from, n int) {
	t.Helper()
	l, e := r.Cut(from, n)
	want := all[from : from+min(n, len(all)-from)]
	if e != api.OK || !slices.Equal(spread(l), want) {
		t.Fatalf("Cut(%d, %d): %v, %d; want %v", from, n, l, e, want)
	}
	for i, p := range l {
		if p.N < 1 || i > 0 && p.I <= l[i-1].I {
			t.Fatalf("Cut(%d, %d): %v", from, n, l)
		}
	}
}

// P15.2, P15.4 (B1): all cuts of some recipes.
func TestCut(t *testing.T) {
	for _, l := range [][]api.Ref{nil, chunks(1), chunks(5), chunks(3, 4), chunks(1, 1, 1, 1), chunks(4, 1, 6, 2, 1, 1, 3), slices.Repeat(chunks(3), 7)} {
		r, all := made(t, l), bytesOf(l)
		for from := range len(all) + 1 {
			for n := range len(all) + 3 {
				wantCut(t, r, all, from, n)
			}
			// P5: from and n together may be more than a number tells.
			for _, n := range []int{512, 1 << 32, math.MaxInt - from, math.MaxInt - 1, math.MaxInt} {
				wantCut(t, r, all, from, n)
			}
		}
	}
}

// P15.2: the greatest recipe, and random ones.
func TestCutGreat(t *testing.T) {
	random := rand.New(rand.NewSource(1))
	l := slices.Repeat(chunks(512), 256)
	for range 40 {
		r, all := made(t, l), bytesOf(l)
		for _, at := range [][2]int{{0, len(all)}, {0, math.MaxInt}, {len(all), 1}, {len(all) - 1, 1}, {0, 0}, {len(all), 0}} {
			wantCut(t, r, all, at[0], at[1])
		}
		for range 20 {
			wantCut(t, r, all, random.Intn(len(all)+1), random.Intn(len(all)+20))
		}
		l = nil
		for range 1 + random.Intn(200) {
			l = append(l, ref(1, 1+random.Intn(20), 1, 1))
		}
	}
}

// The chapter's example.
func TestExample(t *testing.T) {
	l, e := made(t, chunks(3, 4)).Cut(2, 3)
	if want := []api.Piece{{I: 0, From: 2, N: 1}, {I: 1, From: 0, N: 2}}; e != api.OK || !slices.Equal(l, want) {
		t.Error(l, e)
	}
}

// P15.2: what can't be cut.
func TestCutWrong(t *testing.T) {
	for _, l := range [][]api.Ref{nil, chunks(7), chunks(3, 4)} {
		r := made(t, l)
		size := r.Size()
		for _, at := range [][2]int{{-1, 0}, {-1, 1}, {math.MinInt, 1}, {size + 1, 0}, {size + 1, 1}, {math.MaxInt, 0}, {math.MaxInt, math.MaxInt}, {0, -1}, {size, -1}, {0, math.MinInt}, {-1, -1}, {size + 1, -1}, {math.MinInt, math.MaxInt}} {
			if p, e := r.Cut(at[0], at[1]); len(p) != 0 || e != api.ErrArg {
				t.Errorf("Cut%v of %d bytes: %v, %d", at, size, p, e)
			}
		}
		for _, n := range []int{0, 1, math.MaxInt} {
			if p, e := r.Cut(size, n); len(p) != 0 || e != api.OK {
				t.Errorf("Cut(%d, %d) of %d bytes: %v, %d", size, n, size, p, e)
			}
		}
	}
}

// joined is two cuts, one behind the other, in which pieces of one chunk that lie side by side are one.
func joined(a, b []api.Piece) []api.Piece {
	all := slices.Clone(a)
	for _, p := range b {
		if n := len(all); n > 0 && all[n-1].I == p.I && all[n-1].From+all[n-1].N == p.From {
			all[n-1].N += p.N
			continue
		}
		all = append(all, p)
	}
	return all
}

// P15.4 (B1): two cuts that lie side by side are the cut of both.
func TestSideBySide(t *testing.T) {
	r := made(t, chunks(4, 1, 6, 2, 1, 1, 3))
	for from := range r.Size() + 1 {
		for n := range r.Size() - from + 1 {
			for more := range r.Size() - from - n + 1 {
				a, _ := r.Cut(from, n)
				b, _ := r.Cut(from+n, more)
				both, e := r.Cut(from, n+more)
				if e != api.OK || !slices.Equal(joined(a, b), both) {
					t.Fatalf("Cut(%d, %d) %v, and %d more %v; both %v", from, n, a, more, b, both)
				}
			}
		}
	}
}

// P1: nil.
func TestNil(t *testing.T) {
	var r *recipe.Recipe
	if r.Size() != 0 || len(r.Refs()) != 0 {
		t.Error("Size, Refs", r.Size(), r.Refs())
	}
	for _, n := range edges {
		if i, ahead, is := r.Find(n); i != 0 || ahead != 0 || is {
			t.Error("Find", i, ahead, is)
		}
		if l, e := r.Cut(n, n); len(l) != 0 || e != api.ErrNil {
			t.Error("Cut", l, e)
		}
	}
}

// P3: what is handed in is not changed and not kept; what is answered is new memory.
func TestMemory(t *testing.T) {
	room := chunks(3, 4, 5, 6)
	l := room[:3]
	r := made(t, l)
	recipe.Check(l)
	recipe.Size(l)
	if !slices.Equal(room, chunks(3, 4, 5, 6)) {
		t.Error("refs that were handed in are changed")
	}
	clear(room)
	a := r.Refs()
	if !slices.Equal(a, chunks(3, 4, 5)) {
		t.Error("refs that were handed in are kept", a)
	}
	clear(a[:cap(a)])
	if !slices.Equal(r.Refs(), chunks(3, 4, 5)) || r.Size() != 12 {
		t.Error("refs that were told are kept", r.Refs())
	}
	p, _ := r.Cut(1, 9)
	q, _ := r.Cut(1, 9)
	clear(p[:cap(p)])
	if again, _ := r.Cut(1, 9); !slices.Equal(q, again) || len(again) != 3 || again[0] != (api.Piece{I: 0, From: 1, N: 2}) {
		t.Error("two cuts share memory", q, again)
	}
}

// P6: a recipe tells the same, whatever it was asked ahead.
func TestAskingChangesNothing(t *testing.T) {
	l := chunks(4, 1, 6)
	r, all := made(t, l), bytesOf(l)
	for _, n := range edges {
		r.Find(n)
		r.Cut(n, 3)
		r.Cut(3, n)
		wantCut(t, r, all, 2, 7)
		wantCut(t, r, all, 0, math.MaxInt)
	}
	wantRight(t, l)
}
