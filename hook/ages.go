package hook

import (
	"slices"

	"aumbry/api"
)

// entry is a hook, and the segments that had it, the last ones first.
type entry struct {
	sum      api.Sum
	segments []int
	used     int // the number of its last use: no two have the same
	place    int // in the heap
}

// lead has a segment stand first, and at most so many in all.
func (e *entry) lead(segment, most int) {
	e.leave(segment)
	e.segments = slices.Insert(e.segments, 0, segment)
	e.segments = e.segments[:min(len(e.segments), most)]
}

// leave has a segment stand nowhere.
func (e *entry) leave(segment int) {
	e.segments = slices.DeleteFunc(e.segments, func(n int) bool { return n == segment })
}

// ages is a heap of entries: the first one was used longest ago.
type ages []*entry

func (a ages) Len() int { return len(a) }

func (a ages) Less(i, j int) bool { return a[i].used < a[j].used }

func (a ages) Swap(i, j int) {
	a[i], a[j] = a[j], a[i]
	a[i].place, a[j].place = i, j
}

func (a *ages) Push(x any) {
	if e, is := x.(*entry); is {
		e.place = len(*a)
		*a = append(*a, e)
	}
}

func (a *ages) Pop() any {
	last := len(*a) - 1
	e := (*a)[last]
	*a = slices.Delete(*a, last, last+1)
	return e
}

// handOn hands all entries on. It goes through a copy, for who gets them may take them out of the heap.
func (a ages) handOn(to func(*entry)) {
	for _, e := range slices.Clone(a) {
		to(e)
	}
}
