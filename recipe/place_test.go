package recipe_test

import (
	"cmp"
	"math"
	"math/rand"
	"slices"
	"testing"

	"aumbry/api"
	"aumbry/recipe"
)

func move(fromBin, fromSlot, toBin, toSlot int) api.Move {
	return api.Move{From: api.Spot{Bin: fromBin, Slot: fromSlot}, To: api.Spot{Bin: toBin, Slot: toSlot}}
}

func spot(r api.Ref) api.Spot { return api.Spot{Bin: r.Bin, Slot: r.Slot} }

// plainMove is refs that are moved by the chapter's words: of each the first move from where it lies.
func plainMove(l []api.Ref, moves []api.Move) ([]api.Ref, int) {
	out, n := slices.Clone(l), 0
	for i := range out {
		for _, m := range moves {
			if m.From == spot(out[i]) {
				out[i].Bin, out[i].Slot = m.To.Bin, m.To.Slot
				n++
				break
			}
		}
	}
	return out, n
}

func wantMove(t *testing.T, l []api.Ref, moves []api.Move, want []api.Ref, wantN int) {
	t.Helper()
	if got, n := recipe.Move(l, moves); !slices.Equal(got, want) || n != wantN {
		t.Fatalf("Move(%v, %v): %v, %d; want %v, %d", l, moves, got, n, want, wantN)
	}
}

// P15.3: one by one.
func TestMove(t *testing.T) {
	l := []api.Ref{ref(1, 10, 2, 1), ref(2, 5, 1, 7), ref(3, 11, 2, 1)}
	wantMove(t, nil, nil, nil, 0)
	wantMove(t, nil, []api.Move{move(2, 1, 1, 1)}, nil, 0)
	wantMove(t, l, nil, l, 0)
	wantMove(t, l, []api.Move{move(2, 7, 1, 1), move(1, 1, 1, 1), move(7, 1, 9, 9)}, l, 0)
	wantMove(t, l, []api.Move{move(2, 1, 9, 8)}, []api.Ref{ref(1, 10, 9, 8), ref(2, 5, 1, 7), ref(3, 11, 9, 8)}, 2)
	wantMove(t, l, []api.Move{move(1, 7, 0, 0)}, []api.Ref{ref(1, 10, 2, 1), ref(2, 5, 0, 0), ref(3, 11, 2, 1)}, 1)
	// The first one counts.
	wantMove(t, l, []api.Move{move(1, 7, 3, 4), move(1, 7, 5, 6)}, []api.Ref{ref(1, 10, 2, 1), ref(2, 5, 3, 4), ref(3, 11, 2, 1)}, 1)
	// None is moved twice, in whichever order the moves stand.
	swapped := []api.Ref{ref(1, 10, 1, 7), ref(2, 5, 2, 1), ref(3, 11, 1, 7)}
	wantMove(t, l, []api.Move{move(2, 1, 1, 7), move(1, 7, 2, 1)}, swapped, 3)
	wantMove(t, l, []api.Move{move(1, 7, 2, 1), move(2, 1, 1, 7)}, swapped, 3)
	wantMove(t, l, []api.Move{move(2, 1, 5, 5), move(5, 5, 6, 6)}, []api.Ref{ref(1, 10, 5, 5), ref(2, 5, 1, 7), ref(3, 11, 5, 5)}, 2)
	// One that comes to lie where it lies is moved, too; another move of it does not count.
	wantMove(t, l, []api.Move{move(1, 7, 1, 7), move(1, 7, 8, 8)}, l, 1)
}

// P15.3, P1: numbers of any size, and more refs than a file may have.
func TestMoveAny(t *testing.T) {
	far := []int{math.MinInt, -1, 0, 64, 4096, math.MaxInt}
	var l []api.Ref
	var moves []api.Move
	for _, bin := range far {
		for _, slot := range far {
			l = append(l, ref(1, slot, bin, slot))
			moves = append(moves, move(bin, slot, slot, bin))
		}
	}
	l = slices.Repeat(l, 50)
	want, n := plainMove(l, moves)
	if n != len(l) {
		t.Fatal(n)
	}
	wantMove(t, l, moves, want, n)
}

// P15.3, P15.5: random ones: no Sum, no Len and not how many there are is changed.
func TestMoveRandom(t *testing.T) {
	random := rand.New(rand.NewSource(1))
	met := map[int]int{}
	for range 3000 {
		var l []api.Ref
		var moves []api.Move
		for range random.Intn(12) {
			l = append(l, ref(byte(random.Intn(9)), 1+random.Intn(9), random.Intn(4), random.Intn(4)))
		}
		for range random.Intn(12) {
			moves = append(moves, move(random.Intn(4), random.Intn(4), random.Intn(4), random.Intn(4)))
		}
		want, n := plainMove(l, moves)
		wantMove(t, l, moves, want, n)
		met[n]++
		got, _ := recipe.Move(l, moves)
		for i, r := range got {
			if r.Sum != l[i].Sum || r.Len != l[i].Len {
				t.Fatal("another chunk", r, l[i])
			}
		}
		if recipe.Size(got) != recipe.Size(l) {
			t.Fatal("another size")
		}
	}
	if len(met) < 8 {
		t.Error("met", met)
	}
}

// P15.5: moved there and back a recipe is as it was, if nothing was there ahead.
func TestThereAndBack(t *testing.T) {
	random := rand.New(rand.NewSource(2))
	for range 500 {
		var l []api.Ref
		for range random.Intn(20) {
			l = append(l, ref(byte(random.Intn(9)), 1+random.Intn(9), random.Intn(5), random.Intn(5)))
		}
		var there, back []api.Move
		for i, at := range random.Perm(25)[:random.Intn(25)] {
			there = append(there, move(at/5, at%5, 10+i/5, i%5))
			back = append(back, move(10+i/5, i%5, at/5, at%5))
		}
		moved, n := recipe.Move(l, there)
		again, m := recipe.Move(moved, back)
		if n != m || !slices.Equal(again, l) {
			t.Fatal(l, there, moved, again)
		}
	}
}

// wantSpots: each once, rising, and all of them; so are the Bins.
func wantSpots(t *testing.T, l []api.Ref) {
	t.Helper()
	var spots []api.Spot
	var bins []int
	for _, r := range l {
		if !slices.Contains(spots, spot(r)) {
			spots = append(spots, spot(r))
		}
		if !slices.Contains(bins, r.Bin) {
			bins = append(bins, r.Bin)
		}
	}
	slices.SortFunc(spots, func(a, b api.Spot) int {
		if a.Bin != b.Bin {
			return cmp.Compare(a.Bin, b.Bin)
		}
		return cmp.Compare(a.Slot, b.Slot)
	})
	slices.Sort(bins)
	if got := recipe.Spots(l); !slices.Equal(got, spots) {
		t.Errorf("Spots(%v): %v, want %v", l, got, spots)
	}
	if got := recipe.Bins(l); !slices.Equal(got, bins) {
		t.Errorf("Bins(%v): %v, want %v", l, got, bins)
	}
}

// P15.3
func TestSpots(t *testing.T) {
	wantSpots(t, nil)
	wantSpots(t, []api.Ref{ref(1, 1, 2, 1), ref(1, 1, 1, 7), ref(2, 9, 2, 1), ref(1, 1, 1, 3), ref(1, 1, 10, 0)})
	if got := recipe.Spots([]api.Ref{ref(1, 1, 2, 1), ref(1, 1, 1, 7), ref(2, 9, 2, 1), ref(3, 1, 1, 3)}); !slices.Equal(got, []api.Spot{{Bin: 1, Slot: 3}, {Bin: 1, Slot: 7}, {Bin: 2, Slot: 1}}) {
		t.Error(got)
	}
	if got := recipe.Bins([]api.Ref{ref(1, 1, 2, 1), ref(1, 1, 1, 7), ref(2, 9, 2, 1), ref(3, 1, 1, 3)}); !slices.Equal(got, []int{1, 2}) {
		t.Error(got)
	}
	random := rand.New(rand.NewSource(3))
	for range 500 {
		var l []api.Ref
		for range random.Intn(60) {
			l = append(l, ref(byte(random.Intn(9)), random.Intn(600), random.Intn(7)*600, random.Intn(64)))
		}
		wantSpots(t, l)
	}
}

// P15.3, P1: numbers of any size, and more refs than a file may have.
func TestSpotsAny(t *testing.T) {
	var l []api.Ref
	for _, bin := range edges {
		for _, slot := range slices.Backward(edges) {
			l = append(l, ref(1, slot, bin, slot), ref(2, bin, slot, bin))
		}
	}
	wantSpots(t, l)
}

// P3: refs and moves stay as they are, with the room behind them, and what is told is new memory.
func TestPlaceMemory(t *testing.T) {
	room := []api.Ref{ref(1, 1, 2, 1), ref(2, 2, 1, 7), ref(3, 3, 2, 1), ref(4, 4, 4, 4), ref(5, 5, 5, 5)}
	moves := []api.Move{move(2, 1, 3, 3), move(1, 7, 2, 1), move(9, 9, 9, 9)}
	same, sameMoves := slices.Clone(room), slices.Clone(moves)
	l := room[:3]
	untouched := func(what string) {
		t.Helper()
		if !slices.Equal(room, same) || !slices.Equal(moves, sameMoves) {
			t.Fatal(what, "changed what was handed in")
		}
	}
	for _, some := range [][]api.Move{nil, moves[:1], moves[:2]} {
		got, _ := recipe.Move(l, some)
		untouched("Move")
		clear(got[:cap(got)])
		untouched("who got Move's answer")
	}
	spots, bins := recipe.Spots(l), recipe.Bins(l)
	untouched("Spots, Bins")
	clear(spots[:cap(spots)])
	clear(bins[:cap(bins)])
	wantSpots(t, l)
	moved, n := recipe.Move(l, moves)
	clear(moves)
	clear(room)
	if n != 3 || !slices.Equal(moved, []api.Ref{ref(1, 1, 3, 3), ref(2, 2, 2, 1), ref(3, 3, 3, 3)}) {
		t.Error("the answer lies in what was handed in", moved)
	}
}
