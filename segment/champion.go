package segment

import (
	"slices"

	"aumbry/api"
)

// Champions is the segments that are most alike.
func Champions(hits [][]int, most int) []int {
	lists := eachOnce(hits)
	var chosen []int
	for len(chosen) < min(most, api.MaxChamp) {
		n, ok := commonest(lists)
		if !ok {
			break
		}
		chosen = append(chosen, n)
		lists = slices.DeleteFunc(lists, func(l []int) bool { return slices.Contains(l, n) })
	}
	return chosen
}

// eachOnce is copies of the lists, each with its numbers once, so that none counts twice in a list.
func eachOnce(hits [][]int) [][]int {
	lists := make([][]int, 0, len(hits))
	for _, l := range hits {
		own := slices.Clone(l)
		slices.Sort(own)
		lists = append(lists, slices.Compact(own))
	}
	return lists
}

// commonest is the number that stands in most of the lists, of like ones the greatest; false, if there is none.
func commonest(lists [][]int) (int, bool) {
	counts := map[int]int{}
	best, most := 0, 0
	for _, l := range lists {
		for _, n := range l {
			counts[n]++
			if c := counts[n]; c > most || c == most && n > best {
				best, most = n, c
			}
		}
	}
	return best, most > 0
}
