package code

import (
	"cmp"
	"container/heap"
	"slices"

	"aumbry/api"
)

// tree is bytes that became part of one, and how often all of them are there.
type tree struct {
	count int
	least byte
	bytes []byte
}

// Lengths is how long codes are.
func Lengths(counts [256]int) ([256]int, api.Errno) {
	if slices.ContainsFunc(counts[:], isNoCount) {
		return [256]int{}, api.ErrArg
	}
	h := treesOf(counts)
	var lengths [256]int
	if len(h) == 1 {
		// It becomes part of none, but a word has a bit at least.
		lengths[h[0].least] = 1
	}
	for len(h) > 1 {
		one := joined(h.takeLeast(), h.takeLeast())
		for _, c := range one.bytes {
			lengths[c]++
		}
		heap.Push(&h, one)
	}
	return lengths, api.OK
}

func isNoCount(n int) bool { return n < 0 || n > api.MaxFile }

// treesOf is a tree of each byte that is there.
func treesOf(counts [256]int) trees {
	var h trees
	for c, n := range counts {
		if n > 0 {
			heap.Push(&h, tree{count: n, least: byte(c), bytes: []byte{byte(c)}})
		}
	}
	return h
}

// joined is one tree of two.
func joined(a, b tree) tree {
	return tree{
		count: a.count + b.count,
		least: min(a.least, b.least),
		bytes: slices.Concat(a.bytes, b.bytes),
	}
}

// trees is a heap: the first one is the least.
type trees []tree

func (h trees) Len() int { return len(h) }

func (h trees) Less(i, j int) bool {
	return cmp.Or(cmp.Compare(h[i].count, h[j].count), cmp.Compare(h[i].least, h[j].least)) < 0
}

func (h trees) Swap(i, j int) { h[i], h[j] = h[j], h[i] }

func (h *trees) Push(x any) {
	if t, is := x.(tree); is {
		*h = append(*h, t)
	}
}

func (h *trees) Pop() any {
	last := len(*h) - 1
	t := (*h)[last]
	*h = slices.Delete(*h, last, last+1)
	return t
}

// takeLeast takes the least tree out of the heap, which has nothing but trees.
func (h *trees) takeLeast() tree {
	t, _ := heap.Pop(h).(tree)
	return t
}
