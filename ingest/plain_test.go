package ingest_test

import (
	"slices"

	"aumbry/api"
)

// plain is an index by the words of the chapters: bits that are on; entries and containers, those that were used last first.
type plain struct {
	tune    api.Tune
	bits    []int
	entries []plainEntry
	boxes   []plainBox
}

type plainEntry struct {
	sum  api.Sum
	bins []int
}

type plainBox struct {
	bin int
	l   []api.Sum
}

func number(b []byte) int {
	n := 0
	for _, x := range b {
		n = n<<8 + int(x)
	}
	return n
}

func (p *plain) places(s api.Sum) []int {
	var l []int
	for i := range p.tune.Ways {
		l = append(l, (number(s[:6])+i*number(s[6:12]))%p.tune.Bits)
	}
	return l
}

func (p *plain) has(s api.Sum) bool {
	for _, at := range p.places(s) {
		if !slices.Contains(p.bits, at) {
			return false
		}
	}
	return true
}

func (p *plain) hooks(l []api.Sum) []api.Sum {
	var out []api.Sum
	for _, s := range l {
		if number(s[:4])%p.tune.Rate == 0 && !slices.Contains(out, s) {
			out = append(out, s)
		}
	}
	return out[:min(len(out), 16)]
}

// take takes an entry out; without any bins, if there is none.
func (p *plain) take(s api.Sum) plainEntry {
	i := slices.IndexFunc(p.entries, func(e plainEntry) bool { return e.sum == s })
	if i < 0 {
		return plainEntry{sum: s}
	}
	e := p.entries[i]
	p.entries = slices.Delete(slices.Clone(p.entries), i, i+1)
	return e
}

func (p *plain) name(s api.Sum, bin int) {
	e := p.take(s)
	bins := []int{bin}
	for _, n := range e.bins {
		if n != bin && len(bins) < p.tune.Each {
			bins = append(bins, n)
		}
	}
	p.entries = slices.Insert(slices.Clone(p.entries), 0, plainEntry{s, bins})
	p.entries = p.entries[:min(len(p.entries), p.tune.Hooks)]
}

func (p *plain) get(s api.Sum) []int {
	e := p.take(s)
	if len(e.bins) > 0 {
		p.entries = slices.Insert(slices.Clone(p.entries), 0, e)
	}
	return e.bins
}

func (p *plain) put(bin int, l []api.Sum) api.Errno {
	if bin < 0 || bin > 4095 {
		return api.ErrArg
	}
	if len(l) > 64 {
		return api.ErrLimit
	}
	p.uncache(bin)
	p.boxes = slices.Insert(p.boxes, 0, plainBox{bin, slices.Clone(l)})
	p.boxes = p.boxes[:min(len(p.boxes), p.tune.Cache)]
	return api.OK
}

func (p *plain) uncache(bin int) {
	p.boxes = slices.DeleteFunc(slices.Clone(p.boxes), func(b plainBox) bool { return b.bin == bin })
}

func (p *plain) cached(bin int) bool {
	return slices.ContainsFunc(p.boxes, func(b plainBox) bool { return b.bin == bin })
}

func (p *plain) find(s api.Sum) api.Guess {
	for _, b := range p.boxes {
		if slot := slices.Index(b.l, s); slot >= 0 {
			p.put(b.bin, b.l)
			return api.Guess{Is: true, Spot: api.Spot{Bin: b.bin, Slot: slot}}
		}
	}
	return api.Guess{}
}

func (p *plain) learn(bin int, l []api.Sum) api.Errno {
	if e := p.put(bin, l); e != api.OK {
		return e
	}
	for _, s := range l {
		for _, at := range p.places(s) {
			if !slices.Contains(p.bits, at) {
				p.bits = append(p.bits, at)
			}
		}
	}
	for _, s := range p.hooks(l) {
		p.name(s, bin)
	}
	return api.OK
}

func (p *plain) forget(bin int) {
	var left []plainEntry
	for _, e := range p.entries {
		bins := slices.DeleteFunc(slices.Clone(e.bins), func(n int) bool { return n == bin })
		if len(bins) > 0 {
			left = append(left, plainEntry{e.sum, bins})
		}
	}
	p.entries = left
	p.uncache(bin)
}

// champion is the number that is in most lists, of like ones the greatest; -1, if there is none.
func champion(lists [][]int) int {
	best, most := -1, 0
	for _, l := range lists {
		for _, n := range l {
			count := 0
			for _, other := range lists {
				if slices.Contains(other, n) {
					count++
				}
			}
			if count > most || count == most && n > best {
				best, most = n, count
			}
		}
	}
	return best
}

func (p *plain) champions(l []api.Sum) []int {
	var lists [][]int
	for _, s := range p.hooks(l) {
		if p.has(s) {
			lists = append(lists, p.get(s))
		}
	}
	var chosen []int
	for len(chosen) < p.tune.Champs {
		best := champion(lists)
		if best < 0 {
			break
		}
		chosen = append(chosen, best)
		lists = slices.DeleteFunc(lists, func(l []int) bool { return slices.Contains(l, best) })
	}
	return chosen
}

func (p *plain) seek(l []api.Sum, head func(int) ([]api.Sum, bool)) []api.Guess {
	out := make([]api.Guess, len(l))
	l = l[:min(len(l), 64)]
	for _, bin := range p.champions(l) {
		if head == nil || p.cached(bin) {
			continue
		}
		if sums, is := head(bin); is {
			p.put(bin, sums)
		} else {
			p.forget(bin)
		}
	}
	for i, s := range l {
		if p.has(s) {
			out[i] = p.find(s)
		}
	}
	return out
}

func (p *plain) size() int {
	n := p.tune.Bits + len(p.entries)
	for _, b := range p.boxes {
		n += len(b.l)
	}
	return n
}

func (p *plain) clear() { *p = plain{tune: p.tune} }

// fork is another one: what its lists hold is not changed in place, so that they may be shared but for their room.
func (p *plain) fork() *plain {
	return &plain{p.tune, slices.Clone(p.bits), slices.Clone(p.entries), slices.Clone(p.boxes)}
}
