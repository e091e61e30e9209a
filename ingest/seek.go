package ingest

import (
	"aumbry/api"
	"aumbry/segment"
)

// Seek guesses where the chunks of a segment lie.
func (x *Index) Seek(l []api.Sum, head func(bin int) ([]api.Sum, bool)) []api.Guess {
	if !x.made() {
		return nil
	}
	guesses := make([]api.Guess, len(l))
	sought := l[:min(len(l), api.MaxSeg)]
	lists := known(x.hooksOf(sought), x.summary.Has, x.table.Get)
	champions := segment.Champions(lists, x.champs)
	if head != nil {
		x.recall(champions, head)
	}
	for i, s := range sought {
		guesses[i] = x.guess(s)
	}
	return guesses
}

// hooksOf is the hooks of sums.
func (x *Index) hooksOf(l []api.Sum) []api.Sum {
	refs := make([]api.Ref, 0, len(l))
	for _, s := range l {
		refs = append(refs, api.Ref{Sum: s})
	}
	return segment.Hooks(refs, x.rate)
}

// known is what get tells of each hook that may have been seen. The list of one that is not there is empty, and plays no part in the choice of champions.
func known(hooks []api.Sum, seen func(api.Sum) bool, get func(api.Sum) []int) [][]int {
	var lists [][]int
	for _, s := range hooks {
		if seen(s) {
			lists = append(lists, get(s))
		}
	}
	return lists
}

// recall has containers be in the cache. Whether one is there is asked when its turn comes, for those ahead of it may have taken its room.
func (x *Index) recall(bins []int, head func(int) ([]api.Sum, bool)) {
	for _, bin := range bins {
		if x.cache.Has(bin) {
			continue
		}
		if l, is := ask(head, bin); is {
			// More sums than a container may have are an error of Put: then it stays out of the cache.
			x.cache.Put(bin, l)
		} else {
			x.Forget(bin)
		}
	}
}

// ask is what head tells of a container. No call may panic, whatever it is given: a head that does has told of none.
func ask(head func(int) ([]api.Sum, bool), bin int) (l []api.Sum, is bool) {
	defer func() {
		if recover() != nil {
			l, is = nil, false
		}
	}()
	return head(bin)
}

// guess is where the cache has a sum. One that the summary has not was never learnt.
func (x *Index) guess(s api.Sum) api.Guess {
	if !x.summary.Has(s) {
		return api.Guess{}
	}
	bin, slot, is := x.cache.Find(s)
	return api.Guess{Is: is, Spot: api.Spot{Bin: bin, Slot: slot}}
}
