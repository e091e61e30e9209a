package clean_test

import (
	"math"
	"math/big"
	"math/rand"
	"slices"
	"testing"

	"aumbry/api"
	"aumbry/clean"
)

// The signatures that the chapter lists.
var (
	_ func([]api.Fill, []api.Spot) []api.Share       = clean.Shares
	_ func([]api.Share, int, int) ([]int, api.Errno) = clean.Choose
	_ func(int, []api.Spot) []int                    = clean.Copies
	_ func([]api.Fill, []api.Spot) int               = clean.Dead
)

const maxAll = 64 * 512

func fill(bin int, lens ...int) api.Fill { return api.Fill{Bin: bin, Lens: lens} }

func spot(bin, slot int) api.Spot { return api.Spot{Bin: bin, Slot: slot} }

func share(bin, live, all int) api.Share { return api.Share{Bin: bin, All: all, Live: live} }

func wantShares(t *testing.T, bins []api.Fill, live []api.Spot, want ...api.Share) {
	t.Helper()
	if got := clean.Shares(bins, live); !slices.Equal(got, want) {
		t.Errorf("Shares(%v, %v): %v; want %v", bins, live, got, want)
	}
	dead := 0
	for _, s := range want {
		dead += s.All - s.Live
	}
	if got := clean.Dead(bins, live); got != dead {
		t.Errorf("Dead(%v, %v): %d; want %d", bins, live, got, dead)
	}
}

func wantChosen(t *testing.T, l []api.Share, percent, most int, want ...int) {
	t.Helper()
	if got, e := clean.Choose(l, percent, most); e != api.OK || !slices.Equal(got, want) {
		t.Errorf("Choose(%v, %d, %d): %v, %d; want %v", l, percent, most, got, e, want)
	}
}

func wantWrong(t *testing.T, l []api.Share, percent, most int) {
	t.Helper()
	if got, e := clean.Choose(l, percent, most); e != api.ErrArg || len(got) != 0 {
		t.Errorf("Choose(%v, %d, %d): %v, %d", l, percent, most, got, e)
	}
}

func wantCopies(t *testing.T, bin int, live []api.Spot, want ...int) {
	t.Helper()
	if got := clean.Copies(bin, live); !slices.Equal(got, want) {
		t.Errorf("Copies(%d, %v): %v; want %v", bin, live, got, want)
	}
}

// plainShares is shares by the chapter's words.
func plainShares(bins []api.Fill, live []api.Spot) []api.Share {
	var out []api.Share
	for _, f := range bins {
		s := api.Share{Bin: f.Bin}
		for slot, n := range f.Lens {
			if slot >= 64 || n < 1 || n > 512 {
				continue
			}
			s.All += n
			if slices.Contains(live, spot(f.Bin, slot)) {
				s.Live += n
			}
		}
		out = append(out, s)
	}
	return out
}

// part is the part of a container that is live, as a fraction.
func part(s api.Share) *big.Rat {
	if s.All == 0 {
		return new(big.Rat)
	}
	return big.NewRat(int64(s.Live), int64(s.All))
}

// plainChosen is what is chosen by the chapter's words: of those that are left, the first one, again and again.
func plainChosen(l []api.Share, percent, most int) []int {
	var left []api.Share
	for _, s := range l {
		if percent > 0 && s.All == 0 || part(s).Cmp(big.NewRat(int64(percent), 100)) < 0 {
			left = append(left, s)
		}
	}
	var out []int
	for len(left) > 0 && len(out) < most {
		best := 0
		for i, s := range left {
			c := part(s).Cmp(part(left[best]))
			if c < 0 || c == 0 && s.Bin < left[best].Bin {
				best = i
			}
		}
		out = append(out, left[best].Bin)
		left = slices.Delete(left, best, best+1)
	}
	return out
}

// P18.1
func TestShares(t *testing.T) {
	wantShares(t, nil, nil)
	wantShares(t, nil, []api.Spot{spot(1, 1)})
	bins := []api.Fill{fill(4, 10, 10, 20), fill(2, 5, 6), fill(9, 8), fill(7)}
	wantShares(t, bins, nil, share(4, 0, 40), share(2, 0, 11), share(9, 0, 8), share(7, 0, 0))
	// Each slot once, wherever it stands; a spot of no slot, or of no container, plays no part.
	live := []api.Spot{spot(4, 2), spot(2, 1), spot(9, 0), spot(4, 2), spot(4, 1), spot(4, 3), spot(7, 0), spot(3, 0), spot(1, 4), spot(2, 1), spot(4, -1)}
	wantShares(t, bins, live, share(4, 30, 40), share(2, 6, 11), share(9, 8, 8), share(7, 0, 0))
	// A container that stands there twice is told twice.
	wantShares(t, []api.Fill{fill(1, 3, 4), fill(1, 5, 6, 7), fill(1, 3, 4)}, []api.Spot{spot(1, 1), spot(1, 2)}, share(1, 4, 7), share(1, 13, 18), share(1, 4, 7))
}

// P18.1: a length below 1, or above MaxChunk, counts as 0; its slot is a slot.
func TestSharesLengths(t *testing.T) {
	lens := []int{1, 0, -1, 512, 513, math.MaxInt, math.MinInt, math.MaxInt, 7}
	var live []api.Spot
	for slot := range lens {
		live = append(live, spot(3, slot))
	}
	wantShares(t, []api.Fill{fill(3, lens...)}, nil, share(3, 0, 520))
	wantShares(t, []api.Fill{fill(3, lens...)}, live, share(3, 520, 520))
	wantShares(t, []api.Fill{fill(3, lens...)}, []api.Spot{spot(3, 8), spot(3, 1), spot(3, 4)}, share(3, 7, 520))
}

// P18.1: of the slots the first MaxSlots count.
func TestSharesSlots(t *testing.T) {
	for _, n := range []int{63, 64, 65, 66, 500} {
		lens := slices.Repeat([]int{512}, n)
		counted := min(n, 64)
		var live []api.Spot
		for slot := range n {
			live = append(live, spot(1, slot))
		}
		wantShares(t, []api.Fill{fill(1, lens...)}, live, share(1, 512*counted, 512*counted))
		wantShares(t, []api.Fill{fill(1, lens...)}, live[62:], share(1, 512*(counted-62), 512*counted))
	}
	// Those that count as 0 are among them.
	lens := make([]int, 64)
	lens[63] = 9
	wantShares(t, []api.Fill{fill(1, append(lens, 5)...)}, nil, share(1, 0, 9))
}

// P18.1, P1: numbers of any size.
func TestSharesFar(t *testing.T) {
	for _, bin := range []int{math.MinInt, -1, 0, api.MaxBins, math.MaxInt} {
		live := []api.Spot{spot(bin, math.MinInt), spot(bin, math.MaxInt), spot(bin, 1), spot(7, 0), spot(bin, 2), spot(-7, 0)}
		wantShares(t, []api.Fill{fill(bin, 3, 4, 5)}, live, share(bin, 9, 12))
	}
}

// P18.1: random ones.
func TestSharesRandom(t *testing.T) {
	r := rand.New(rand.NewSource(1))
	for range 500 {
		var bins []api.Fill
		var live []api.Spot
		for range r.Intn(8) {
			f := fill(r.Intn(6))
			for range r.Intn(70) {
				f.Lens = append(f.Lens, r.Intn(530)-8)
			}
			bins = append(bins, f)
		}
		for range r.Intn(200) {
			live = append(live, spot(r.Intn(7), r.Intn(70)))
		}
		wantShares(t, bins, live, plainShares(bins, live)...)
	}
}

// The chapter's example.
func TestExample(t *testing.T) {
	wantChosen(t, []api.Share{share(1, 4, 10), share(2, 1, 10), share(3, 10, 10)}, 50, 9, 2, 1)
}

// P18.2: percent and most.
func TestChooseWrong(t *testing.T) {
	for _, l := range [][]api.Share{nil, {share(1, 1, 2)}, {share(1, 2, 1)}} {
		for _, percent := range []int{-1, 101, math.MinInt, math.MaxInt} {
			for _, most := range []int{0, 1, math.MaxInt, -1} {
				wantWrong(t, l, percent, most)
			}
		}
		for _, most := range []int{-1, -2, math.MinInt} {
			for _, percent := range []int{0, 50, 100} {
				wantWrong(t, l, percent, most)
			}
		}
	}
}

// P18.2: shares that can't be, wherever they stand, and whether they would be chosen or not.
func TestChooseWrongShare(t *testing.T) {
	good := share(1, 5, 10)
	for _, bad := range []api.Share{
		share(2, -1, 10), share(2, 11, 10), share(2, 1, 0), share(2, -1, 0), share(2, -1, -1), share(2, 0, -1), share(2, -2, -1),
		share(2, 0, maxAll+1), share(2, maxAll+1, maxAll+1), share(2, math.MinInt, math.MaxInt), share(2, math.MaxInt, math.MaxInt),
		share(2, math.MinInt, math.MinInt), share(2, math.MaxInt, math.MinInt), share(2, 0, math.MaxInt), share(2, 0, math.MinInt),
	} {
		for _, l := range [][]api.Share{{bad}, {bad, good}, {good, good, bad}, {good, bad, good}} {
			for _, percent := range []int{0, 1, 100} {
				for _, most := range []int{0, 1, 9} {
					wantWrong(t, l, percent, most)
				}
			}
		}
	}
}

// P18.2: shares at their bounds.
func TestChooseEdges(t *testing.T) {
	l := []api.Share{share(1, 0, maxAll), share(2, maxAll, maxAll), share(3, maxAll-1, maxAll), share(4, 1, maxAll), share(5, 0, 1), share(6, 1, 1)}
	wantChosen(t, l, 100, 9, 1, 5, 4, 3)
	wantChosen(t, l, 99, 9, 1, 5, 4)
	wantChosen(t, l, 1, 9, 1, 5, 4)
	wantChosen(t, l, 0, 9)
	wantChosen(t, nil, 100, 9)
}

// P18.2: below percent, not at it.
func TestChoosePercent(t *testing.T) {
	for percent := range 101 {
		for live := range 101 {
			var want []int
			if live < percent {
				want = []int{7}
			}
			wantChosen(t, []api.Share{share(7, live, 100)}, percent, 1, want...)
		}
	}
	// A third is more than 33 percent, and less than 34.
	wantChosen(t, []api.Share{share(1, 1, 3)}, 33, 9)
	wantChosen(t, []api.Share{share(1, 1, 3)}, 34, 9, 1)
}

// P18.2: those without bytes, if percent is above 0: like those of which nothing is live.
func TestChooseEmpty(t *testing.T) {
	l := []api.Share{share(5, 0, 0), share(4, 1, 10), share(3, 0, 10), share(9, 0, 7), share(8, 0, 0), share(1, 1, maxAll), share(2, 0, 0)}
	wantChosen(t, l, 0, 9)
	for _, percent := range []int{1, 10} {
		wantChosen(t, l, percent, 9, 2, 3, 5, 8, 9, 1)
	}
	wantChosen(t, l, 11, 9, 2, 3, 5, 8, 9, 1, 4)
	wantChosen(t, l, 100, 3, 2, 3, 5)
}

// P18.2: the least share first; of like ones, also of other sizes, the least number first.
func TestChooseOrder(t *testing.T) {
	l := []api.Share{share(9, 1, 2), share(4, 2, 4), share(7, 1, 3), share(-3, 300, 600), share(6, 2, 3), share(5, 33, 100), share(8, 34, 100), share(4, 50, 100)}
	wantChosen(t, l, 100, 99, 5, 7, 8, -3, 4, 4, 9, 6)
	wantChosen(t, l, 50, 99, 5, 7, 8)
	// Shares that are very near to each other: 32766 of 32768, 32765 of 32767.
	wantChosen(t, []api.Share{share(1, 32766, 32768), share(2, 32765, 32767)}, 100, 9, 2, 1)
	wantChosen(t, []api.Share{share(2, 32766, 32768), share(1, 32765, 32767)}, 100, 9, 1, 2)
	// Numbers of any size.
	far := []int{math.MaxInt, 0, math.MinInt, -1, 5000}
	var all []api.Share
	for _, bin := range far {
		all = append(all, share(bin, 1, 2))
	}
	wantChosen(t, all, 100, 9, math.MinInt, -1, 0, 5000, math.MaxInt)
}

// P18.2: most of them at most.
func TestChooseMost(t *testing.T) {
	var l []api.Share
	var want []int
	for i := range 20 {
		l = append(l, share(100-i, 20-i, 21))
		want = append(want, 81+i)
	}
	for most := range 25 {
		wantChosen(t, l, 100, most, want[:min(most, 20)]...)
	}
	wantChosen(t, l, 100, math.MaxInt, want...)
}

// P18.2, P18.5: random ones; in which order shares stand plays no part.
func TestChooseRandom(t *testing.T) {
	r := rand.New(rand.NewSource(2))
	for range 3000 {
		var l []api.Share
		size := []int{4, 30, maxAll + 1}[r.Intn(3)]
		for range r.Intn(25) {
			all := r.Intn(size)
			l = append(l, share(r.Intn(12), r.Intn(all+1), all))
		}
		percent, most := r.Intn(101), r.Intn(30)
		want := plainChosen(l, percent, most)
		wantChosen(t, l, percent, most, want...)
		r.Shuffle(len(l), func(i, j int) { l[i], l[j] = l[j], l[i] })
		wantChosen(t, l, percent, most, want...)
		if t.Failed() {
			t.FailNow()
		}
	}
}

// P18.5: what is chosen is not greater than what is chosen behind it, or left out but for most.
func TestChosenAreLeast(t *testing.T) {
	r := rand.New(rand.NewSource(3))
	for range 300 {
		by := map[int]api.Share{}
		var l []api.Share
		for bin := range 30 {
			all := r.Intn(60)
			by[bin] = share(bin, r.Intn(all+1), all)
			l = append(l, by[bin])
		}
		percent := r.Intn(101)
		full, _ := clean.Choose(l, percent, len(l))
		some, _ := clean.Choose(l, percent, r.Intn(len(full)+1))
		if !slices.Equal(some, full[:len(some)]) {
			t.Fatal("fewer are others", some, full)
		}
		for i := 1; i < len(full); i++ {
			if part(by[full[i-1]]).Cmp(part(by[full[i]])) > 0 {
				t.Fatal("a greater one is first", by[full[i-1]], by[full[i]])
			}
		}
	}
}

// P18.3
func TestCopies(t *testing.T) {
	live := []api.Spot{spot(4, 9), spot(2, 5), spot(4, 1), spot(4, 9), spot(9, 4), spot(4, 0), spot(4, 1)}
	wantCopies(t, 4, live, 0, 1, 9)
	wantCopies(t, 2, live, 5)
	wantCopies(t, 9, live, 4)
	wantCopies(t, 1, live)
	wantCopies(t, 0, nil)
	// Slots, and containers, of any size.
	far := []int{math.MaxInt, -1, 64, math.MinInt, 0}
	var all []api.Spot
	for _, bin := range far {
		for _, slot := range far {
			all = append(all, spot(bin, slot), spot(bin, slot))
		}
	}
	for _, bin := range far {
		wantCopies(t, bin, all, math.MinInt, -1, 0, 64, math.MaxInt)
	}
}

// P18.6: the copies of all containers together are the spots of live.
func TestCopiesAreLive(t *testing.T) {
	r := rand.New(rand.NewSource(4))
	for range 300 {
		var live, copies []api.Spot
		for range r.Intn(150) {
			live = append(live, spot(r.Intn(9)-2, r.Intn(66)-1))
		}
		for bin := -2; bin < 7; bin++ {
			slots := clean.Copies(bin, live)
			for i, slot := range slots {
				if i > 0 && slots[i-1] >= slot {
					t.Fatal("they do not rise", slots)
				}
				copies = append(copies, spot(bin, slot))
			}
		}
		for _, s := range live {
			if !slices.Contains(copies, s) {
				t.Fatal("not copied", s)
			}
		}
		for i, s := range copies {
			if !slices.Contains(live, s) || slices.Contains(copies[:i], s) {
				t.Fatal("copied, but not live, or twice", s)
			}
		}
	}
}

// P18.4 (B5): by 100 percent, as many as there are, none is left but those all of whose bytes are live.
func TestChooseAll(t *testing.T) {
	r := rand.New(rand.NewSource(5))
	for range 300 {
		var bins []api.Fill
		var live []api.Spot
		for bin := range r.Intn(15) {
			f := fill(bin)
			sparse := r.Intn(4)
			for slot := range r.Intn(6) {
				f.Lens = append(f.Lens, 1+r.Intn(512))
				if sparse == 0 || r.Intn(sparse) > 0 {
					live = append(live, spot(bin, slot))
				}
			}
			bins = append(bins, f)
		}
		l := clean.Shares(bins, live)
		chosen, e := clean.Choose(l, 100, len(l))
		if e != api.OK {
			t.Fatal(e)
		}
		var left []api.Fill
		for i, s := range l {
			if whole := s.Live == s.All && s.All > 0; whole == slices.Contains(chosen, s.Bin) {
				t.Fatal(s, chosen)
			} else if whole {
				left = append(left, bins[i])
			}
		}
		if n := clean.Dead(left, live); n != 0 {
			t.Fatal("dead bytes are left", n)
		}
	}
}

// P5: bytes of very many containers.
func TestDeadMany(t *testing.T) {
	lens := slices.Repeat([]int{512}, 64)
	bins := slices.Repeat([]api.Fill{fill(3, lens...)}, 70000)
	if n := clean.Dead(bins, []api.Spot{spot(3, 5)}); n != 70000*(maxAll-512) {
		t.Error(n)
	}
}

// P3: what is handed in stays as it is, with the room behind it, and what is told is new memory.
func TestMemory(t *testing.T) {
	lens := []int{10, 600, 20, 30}
	bins := []api.Fill{fill(2, lens[:3]...), fill(1, 5), fill(3, 7)}
	live := []api.Spot{spot(2, 2), spot(1, 0), spot(2, 0), spot(2, 2), spot(9, 9)}
	list := []api.Share{share(4, 9, 10), share(3, 5, 10), share(2, 0, 0), share(1, 1, 10), share(9, 9, 1)}
	keptLens, keptLive, keptList := slices.Clone(lens), slices.Clone(live), slices.Clone(list)
	bin, number := bins[2].Bin, bins[0].Bin
	untouched := func(what string) {
		t.Helper()
		if !slices.Equal(lens, keptLens) || !slices.Equal(live, keptLive) || !slices.Equal(list, keptList) || bins[2].Bin != bin || bins[0].Bin != number || len(bins[0].Lens) != 3 {
			t.Fatal(what, "changed what was handed in")
		}
	}
	shares := clean.Shares(bins[:2], live[:4])
	clean.Dead(bins[:2], live[:4])
	untouched("Shares, Dead")
	chosen, e := clean.Choose(list[:4], 100, 9)
	if e != api.OK {
		t.Fatal(e)
	}
	untouched("Choose")
	copies := clean.Copies(2, live[:4])
	untouched("Copies")
	clear(shares[:cap(shares)])
	clear(chosen[:cap(chosen)])
	clear(copies[:cap(copies)])
	untouched("who got an answer")
	wantShares(t, bins[:2], live[:4], share(2, 30, 30), share(1, 5, 5))
	wantChosen(t, list[:4], 100, 9, 2, 1, 3, 4)
	wantCopies(t, 2, live[:4], 0, 2)
}
