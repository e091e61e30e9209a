package segment_test

import (
	"encoding/binary"
	"math"
	"math/rand"
	"slices"
	"testing"

	"aumbry/api"
	"aumbry/segment"
)

// The signatures that the chapter lists.
var (
	_ func(api.Sum, int) bool                       = segment.Hook
	_ func([]api.Ref, int) []api.Sum                = segment.Hooks
	_ func([]api.Ref, int) bool                     = segment.Ends
	_ func([]api.Ref, int) ([][]api.Ref, api.Errno) = segment.Split
	_ func([][]int, int) []int                      = segment.Champions
	_ func([]api.Ref) ([]byte, api.Errno)           = segment.Put
	_ func([]byte) ([]api.Ref, api.Errno)           = segment.Take
)

// wrongRates are numbers that are no rates.
var wrongRates = []int{0, -1, -2, -256, api.MaxRate + 1, 2 * api.MaxRate, 1 << 32, math.MaxInt, math.MinInt}

// sum is a sum whose first four bytes are a number, the highest first, and whose last one is last.
func sum(first uint32, last byte) api.Sum {
	s := api.Sum{31: last}
	binary.BigEndian.PutUint32(s[:], first)
	return s
}

func ref(first uint32, last byte) api.Ref {
	return api.Ref{Sum: sum(first, last), Len: 1 + int(first%api.MaxChunk), Bin: int(first % api.MaxBins), Slot: int(first % api.MaxSlots)}
}

// refs are refs that all differ, with these last bytes.
func refs(lasts ...byte) []api.Ref {
	var l []api.Ref
	for i, last := range lasts {
		l = append(l, ref(uint32(i), last))
	}
	return l
}

// alike are n refs, all with the same last byte.
func alike(n int, last byte) []api.Ref {
	return refs(slices.Repeat([]byte{last}, n)...)
}

func randomRefs(r *rand.Rand, n int) []api.Ref {
	var l []api.Ref
	for range n {
		x := api.Ref{Len: 1 + r.Intn(api.MaxChunk), Bin: r.Intn(api.MaxBins), Slot: r.Intn(api.MaxSlots)}
		r.Read(x.Sum[:])
		l = append(l, x)
	}
	return l
}

// P7.1, and the chapter's first example.
func TestHook(t *testing.T) {
	for _, c := range []struct {
		first uint32
		rate  int
		want  bool
	}{
		{6, 3, true}, {6, 4, false}, {6, 1, true}, {6, 2, true}, {6, 6, true}, {6, 12, false},
		{0, 1, true}, {0, 256, true}, {0, 7, true},
		{256, 256, true}, {255, 256, false}, {255, 255, true}, {257, 256, false}, {1, 2, false},
		{1 << 24, 256, true}, {1<<24 + 1, 256, false}, {1 << 31, 3, false}, {1 << 31, 128, true},
		{math.MaxUint32, 1, true}, {math.MaxUint32, 2, false}, {math.MaxUint32, 255, true}, {math.MaxUint32, 256, false},
	} {
		if got := segment.Hook(sum(c.first, 9), c.rate); got != c.want {
			t.Errorf("Hook of %d, by %d: %v", c.first, c.rate, got)
		}
	}
}

// P7.1: at each rate, of any sum.
func TestHookAtEachRate(t *testing.T) {
	r := rand.New(rand.NewSource(1))
	for range 200 {
		var s api.Sum
		r.Read(s[:])
		n := int(s[0])<<24 + int(s[1])<<16 + int(s[2])<<8 + int(s[3])
		for rate := 1; rate <= api.MaxRate; rate++ {
			if got := segment.Hook(s, rate); got != (n%rate == 0) {
				t.Fatalf("Hook(%x, %d): %v", s, rate, got)
			}
		}
	}
}

// P7.1: the bytes behind the first four play no part.
func TestHookByFourBytes(t *testing.T) {
	for i := range len(api.Sum{}) {
		s := api.Sum{3: 6}
		s[i] ^= 1
		if got := segment.Hook(s, 3); got != (i > 3) {
			t.Errorf("with another byte %d: %v", i, got)
		}
	}
}

// P7.1: wrong rates.
func TestHookWrongRate(t *testing.T) {
	for _, rate := range wrongRates {
		if segment.Hook(api.Sum{}, rate) || segment.Hook(sum(256, 0), rate) {
			t.Errorf("a hook by %d", rate)
		}
		if l := segment.Hooks([]api.Ref{{}, ref(256, 1)}, rate); len(l) != 0 {
			t.Errorf("hooks by %d: %x", rate, l)
		}
	}
}

func wantHooks(t *testing.T, l []api.Ref, rate int, want ...api.Sum) {
	t.Helper()
	if got := segment.Hooks(l, rate); !slices.Equal(got, want) {
		t.Errorf("Hooks by %d: %x; want %x", rate, got, want)
	}
}

// P7.1: in order, each once, whatever else a ref says.
func TestHooks(t *testing.T) {
	wantHooks(t, nil, 1)
	wantHooks(t, []api.Ref{}, 1)
	wantHooks(t, []api.Ref{ref(5, 0)}, 4)
	l := []api.Ref{ref(9, 0), ref(4, 0), ref(8, 0), ref(6, 0), ref(3, 0), ref(4, 0), ref(0, 0), ref(8, 1)}
	wantHooks(t, l, 4, sum(4, 0), sum(8, 0), sum(0, 0), sum(8, 1))
	wantHooks(t, l, 3, sum(9, 0), sum(6, 0), sum(3, 0), sum(0, 0))
	wantHooks(t, l, 1, sum(9, 0), sum(4, 0), sum(8, 0), sum(6, 0), sum(3, 0), sum(0, 0), sum(8, 1))
	elsewhere := ref(4, 0)
	elsewhere.Len, elsewhere.Bin, elsewhere.Slot = -7, math.MaxInt, math.MinInt
	wantHooks(t, []api.Ref{ref(4, 0), elsewhere}, 4, sum(4, 0))
	wantHooks(t, []api.Ref{elsewhere}, 4, sum(4, 0))
}

// P7.1: the first MaxHooks, of which those that come again are not counted.
func TestHooksMost(t *testing.T) {
	var l []api.Ref
	var want []api.Sum
	for i := range uint32(api.MaxHooks + 5) {
		l = append(l, ref(2*i, 7), ref(2*i+1, 7), ref(2*i, 7), ref(0, 7))
		want = append(want, sum(2*i, 7))
		wantHooks(t, l, 2, want[:min(len(want), api.MaxHooks)]...)
	}
	slices.Reverse(l)
	wantHooks(t, l[:4*20], 2, func() []api.Sum {
		back := []api.Sum{sum(0, 7)}
		for i := api.MaxHooks + 4; len(back) < api.MaxHooks; i-- {
			back = append(back, sum(uint32(2*i), 7))
		}
		return back
	}()...)
}

// P7.2: each number of refs, at each most: at most refs, or from the greater half on.
func TestEnds(t *testing.T) {
	for most := 1; most <= api.MaxSeg; most++ {
		half := 0
		for 2*half < most {
			half++
		}
		for n := range most + 1 {
			for _, last := range []byte{0, 1, 31, 32, 33, 99, 128, 255} {
				want := n == most || n > 0 && n >= half && last < 32
				if got := segment.Ends(alike(n, last), most); got != want {
					t.Fatalf("Ends of %d refs, the last byte %d, most %d: %v", n, last, most, got)
				}
			}
		}
	}
}

// P7.2: none ends, if there is none.
func TestEndsOfNone(t *testing.T) {
	for _, most := range []int{0, 1, 2, 64, 65, -1, math.MinInt, math.MaxInt} {
		if segment.Ends(nil, most) || segment.Ends([]api.Ref{}, most) {
			t.Error("none ends, most", most)
		}
	}
}

// P7.2: only the last byte of the last one counts.
func TestEndsByTheLastByte(t *testing.T) {
	if !segment.Ends(refs(99, 99, 31), 6) || segment.Ends(refs(0, 0, 32), 6) || segment.Ends(refs(0, 0, 99, 99), 6) {
		t.Error("another ref's byte counts")
	}
	one := []api.Ref{ref(1, 31)}
	for i := range 31 {
		one[0].Sum[i] = 255
	}
	if !segment.Ends(one, 2) {
		t.Error("another byte counts")
	}
	for i := range 31 {
		one[0].Sum[i] = 0
	}
	one[0].Sum[31] = 32
	if segment.Ends(one, 2) {
		t.Error("another byte counts")
	}
}

// P7.2, P1, P5: a most of any size; half of it does not go round.
func TestEndsFarMost(t *testing.T) {
	for _, most := range []int{math.MaxInt, math.MaxInt - 1, 1 << 40, 7, 8} {
		if segment.Ends(alike(3, 0), most) {
			t.Error("ends, most", most)
		}
	}
	for _, most := range []int{5, 6, 3, 2, 1, 0, -1, -5, math.MinInt, math.MinInt + 1} {
		if !segment.Ends(alike(3, 0), most) {
			t.Error("does not end, most", most)
		}
	}
	// Of more than most only the words on half as many speak.
	for _, most := range []int{2, 1, 0, -3, math.MinInt} {
		if segment.Ends(alike(3, 32), most) {
			t.Error("ends, most", most)
		}
	}
}

// P7.2
func TestSplitWrong(t *testing.T) {
	for _, most := range []int{0, -1, api.MaxSeg + 1, math.MaxInt, math.MinInt} {
		for _, l := range [][]api.Ref{nil, refs(0, 99)} {
			if g, e := segment.Split(l, most); len(g) != 0 || e != api.ErrArg {
				t.Errorf("Split by %d: %v, %d", most, g, e)
			}
		}
	}
}

// wantSizes: the groups have so many refs, and are l, one behind the other.
func wantSizes(t *testing.T, l []api.Ref, most int, want ...int) {
	t.Helper()
	groups, e := segment.Split(l, most)
	var sizes []int
	for _, g := range groups {
		sizes = append(sizes, len(g))
	}
	if e != api.OK || !slices.Equal(sizes, want) || !slices.Equal(slices.Concat(groups...), l) {
		t.Errorf("Split by %d: %v, %d; want %v", most, sizes, e, want)
	}
}

// P7.2
func TestSplit(t *testing.T) {
	wantSizes(t, nil, 1)
	wantSizes(t, []api.Ref{}, api.MaxSeg)
	wantSizes(t, refs(99), 4, 1)
	wantSizes(t, refs(0), 4, 1)
	wantSizes(t, refs(99, 0, 255), 1, 1, 1, 1)
	wantSizes(t, refs(99, 99, 99, 99, 99), 2, 2, 2, 1)
	wantSizes(t, refs(0, 99, 99, 99, 31), 2, 1, 2, 2)
	wantSizes(t, refs(0, 0, 0, 0, 0), 4, 2, 2, 1)
	wantSizes(t, refs(0, 0, 0, 0, 0), 5, 3, 2)
	wantSizes(t, refs(0, 32, 99, 99, 0, 31, 99), 4, 4, 2, 1)
	wantSizes(t, alike(api.MaxSeg, 99), api.MaxSeg, api.MaxSeg)
	wantSizes(t, alike(api.MaxSeg+1, 99), api.MaxSeg, api.MaxSeg, 1)
	wantSizes(t, alike(api.MaxSeg, 0), api.MaxSeg, api.MaxSeg/2, api.MaxSeg/2)
	wantSizes(t, alike(api.MaxSeg, 0), api.MaxSeg-1, api.MaxSeg/2, api.MaxSeg/2)
	// Refs that no container could have are grouped like others.
	wantSizes(t, []api.Ref{{Len: -1}, {Bin: math.MaxInt}, {Slot: math.MinInt}}, 1, 1, 1, 1)
}

// P7.2, P7.5: of any refs, at each most.
func TestSplitAny(t *testing.T) {
	r := rand.New(rand.NewSource(2))
	for most := 1; most <= api.MaxSeg; most++ {
		l := randomRefs(r, r.Intn(300))
		groups, e := segment.Split(l, most)
		if e != api.OK || !slices.Equal(slices.Concat(groups...), l) {
			t.Fatal("the groups are not the list", most, e)
		}
		for i, g := range groups {
			if len(g) < 1 || len(g) > most {
				t.Fatalf("most %d: a group of %d", most, len(g))
			}
			for n := range g {
				if segment.Ends(g[:n], most) {
					t.Fatalf("most %d: a group of %d could end behind %d", most, len(g), n)
				}
			}
			if i < len(groups)-1 && !segment.Ends(g, most) {
				t.Fatalf("most %d: a group of %d does not end", most, len(g))
			}
		}
	}
}

// P7.5: what stands behind the end of a group plays no part in it.
func TestSplitBehind(t *testing.T) {
	r := rand.New(rand.NewSource(3))
	for most := 1; most <= api.MaxSeg; most++ {
		l := randomRefs(r, 200)
		whole, _ := segment.Split(l, most)
		n := 0
		for i, g := range whole[:len(whole)-1] {
			n += len(g)
			for _, tail := range [][]api.Ref{nil, alike(70, 0), alike(70, 99)} {
				part, _ := segment.Split(slices.Concat(l[:n], tail), most)
				if !slices.EqualFunc(part[:i+1], whole[:i+1], slices.Equal) {
					t.Fatalf("most %d: the groups up to %d are others", most, i)
				}
			}
		}
	}
}

// P3: what is handed in stays as it is, with the room behind it.
func TestHandedInStays(t *testing.T) {
	r := rand.New(rand.NewSource(4))
	room := randomRefs(r, 100)
	kept := slices.Clone(room)
	l := room[:60]
	segment.Hooks(l, 1)
	segment.Ends(l, 4)
	segment.Split(l, 7)
	segment.Put(l)
	if !slices.Equal(room, kept) {
		t.Error("what is handed in is changed")
	}
}

// P3: no group lies in what was handed in, or in another one, or its spare room in one of these.
func TestSplitMemory(t *testing.T) {
	r := rand.New(rand.NewSource(5))
	for _, most := range []int{1, 2, 3, 7, 64} {
		l := randomRefs(r, 150)
		kept := slices.Clone(l)
		groups, _ := segment.Split(l, most)
		at := 0
		for i, g := range groups {
			if !slices.Equal(g, kept[at:at+len(g)]) {
				t.Fatalf("most %d: the group %d lies in another one", most, i)
			}
			at += len(g)
			full := g[:cap(g)]
			for k := range full {
				full[k] = api.Ref{Len: -9}
			}
			groups[i] = append(g, api.Ref{Len: -8})
		}
		if !slices.Equal(l, kept) {
			t.Errorf("most %d: a group lies in the list", most)
		}
	}
}

// P3, P6: an answer is new memory each time, and nothing is kept.
func TestHooksMemory(t *testing.T) {
	l := []api.Ref{ref(4, 0), ref(5, 0), ref(8, 0)}
	one := segment.Hooks(l, 4)
	clear(one[:cap(one)])
	wantHooks(t, l, 4, sum(4, 0), sum(8, 0))
	two := segment.Hooks(l, 4)
	clear(l)
	if !slices.Equal(two, []api.Sum{sum(4, 0), sum(8, 0)}) {
		t.Error("hooks lie in the list")
	}
}
