package recipe

import (
	"cmp"
	"iter"
	"slices"

	"aumbry/api"
)

// Move has chunks lie elsewhere.
func Move(l []api.Ref, moves []api.Move) ([]api.Ref, int) {
	to := targets(moves)
	moved, n := slices.Clone(l), 0
	for i, spot := range spots(l) {
		if there, is := to[spot]; is {
			moved[i].Bin, moved[i].Slot = there.Bin, there.Slot
			n++
		}
	}
	return moved, n
}

// Spots is where chunks lie.
func Spots(l []api.Ref) []api.Spot {
	all := make([]api.Spot, 0, len(l))
	for _, spot := range spots(l) {
		all = append(all, spot)
	}
	slices.SortFunc(all, compare)
	return slices.Compact(all)
}

// Bins is in which containers chunks lie.
func Bins(l []api.Ref) []int {
	all := make([]int, 0, len(l))
	for _, spot := range spots(l) {
		all = append(all, spot.Bin)
	}
	slices.Sort(all)
	return slices.Compact(all)
}

// spots tells where each chunk lies, in their order.
func spots(l []api.Ref) iter.Seq2[int, api.Spot] {
	return func(yield func(int, api.Spot) bool) {
		for i, r := range l {
			if !yield(i, api.Spot{Bin: r.Bin, Slot: r.Slot}) {
				return
			}
		}
	}
}

// targets is where each spot's chunk comes to lie: by the first of its moves.
func targets(moves []api.Move) map[api.Spot]api.Spot {
	to := make(map[api.Spot]api.Spot, len(moves))
	for _, m := range moves {
		if _, is := to[m.From]; !is {
			to[m.From] = m.To
		}
	}
	return to
}

func compare(a, b api.Spot) int {
	return cmp.Or(cmp.Compare(a.Bin, b.Bin), cmp.Compare(a.Slot, b.Slot))
}
