package clean

import (
	"cmp"
	"container/heap"
	"slices"

	"aumbry/api"
)

// shares is a heap of right shares: the first one is the least.
type shares []api.Share

func (h shares) Len() int { return len(h) }

func (h shares) Less(i, j int) bool { return compare(h[i], h[j]) < 0 }

func (h shares) Swap(i, j int) { h[i], h[j] = h[j], h[i] }

func (h *shares) Push(x any) {
	if s, is := x.(api.Share); is {
		*h = append(*h, s)
	}
}

func (h *shares) Pop() any {
	last := len(*h) - 1
	s := (*h)[last]
	*h = slices.Delete(*h, last, last+1)
	return s
}

// takeLeast takes the least share out of the heap, which has nothing but shares.
func (h *shares) takeLeast() api.Share {
	s, _ := heap.Pop(h).(api.Share)
	return s
}

// compare holds two shares against each other, of like ones their numbers. They are multiplied crosswise, as a quotient would be rounded; a container without bytes counts as one of which nothing is live.
func compare(a, b api.Share) int {
	return cmp.Or(
		cmp.Compare(a.Live*max(b.All, 1), b.Live*max(a.All, 1)),
		cmp.Compare(a.Bin, b.Bin),
	)
}
