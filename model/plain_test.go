package model_test

import (
	"cmp"
	"slices"

	"aumbry/api"
	"aumbry/record"
)

// plain is an appliance by the chapter's words: rows of generations, of snapshots and of sessions, in no order.
type plain struct {
	quota, now, began int
	gens              []plainGen
	shots             []plainShot
	open              []plainOpen
}

type plainGen struct {
	name      string
	gen, time int
	text      string
	gone      bool
}

type plainShot struct {
	name string
	held []api.Held
}

type plainOpen struct {
	n          int
	name, text string
}

func (p *plain) fork() *plain {
	other := *p
	other.gens, other.shots, other.open = slices.Clone(p.gens), slices.Clone(p.shots), slices.Clone(p.open)
	return &other
}

// of is the generations of a file, rising.
func (p *plain) of(name string) []plainGen {
	var l []plainGen
	for _, g := range p.gens {
		if g.name == name {
			l = append(l, g)
		}
	}
	slices.SortFunc(l, func(a, b plainGen) int { return a.gen - b.gen })
	return l
}

func (p *plain) liveOf(name string) []plainGen {
	return slices.DeleteFunc(p.of(name), func(g plainGen) bool { return g.gone })
}

func (p *plain) files() []string {
	var l []string
	for _, g := range p.gens {
		l = append(l, g.name)
	}
	slices.Sort(l)
	return slices.Compact(l)
}

func (p *plain) names() []api.Held {
	var l []api.Held
	for _, name := range p.files() {
		if live := p.liveOf(name); len(live) > 0 {
			l = append(l, api.Held{Name: name, Gen: live[len(live)-1].gen})
		}
	}
	return l
}

func (p *plain) sessions() []int {
	var l []int
	for _, s := range p.open {
		l = append(l, s.n)
	}
	slices.Sort(l)
	return l
}

// get is a live generation.
func (p *plain) get(name string, gen int) (plainGen, bool) {
	live := p.liveOf(name)
	if gen == 0 && len(live) > 0 {
		return live[len(live)-1], true
	}
	for _, g := range live {
		if g.gen == gen {
			return g, true
		}
	}
	return plainGen{}, false
}

func (p *plain) shot(name string) int {
	return slices.IndexFunc(p.shots, func(s plainShot) bool { return s.name == name })
}

func (p *plain) session(n int) int {
	return slices.IndexFunc(p.open, func(s plainOpen) bool { return s.n == n })
}

func (p *plain) close(n int) {
	p.open = slices.DeleteFunc(slices.Clone(p.open), func(s plainOpen) bool { return s.n == n })
}

func (p *plain) held(g plainGen) bool {
	return slices.ContainsFunc(p.shots, func(s plainShot) bool { return slices.Contains(s.held, api.Held{Name: g.name, Gen: g.gen}) })
}

// sweep takes away what is gone and that no snapshot holds.
func (p *plain) sweep() {
	p.gens = slices.DeleteFunc(slices.Clone(p.gens), func(g plainGen) bool { return g.gone && !p.held(g) })
}

func (p *plain) drop(l []api.Held) {
	p.gens = slices.Clone(p.gens)
	for i, g := range p.gens {
		if slices.Contains(l, api.Held{Name: g.name, Gen: g.gen}) {
			p.gens[i].gone = true
		}
	}
	p.sweep()
}

func (p *plain) all() int {
	n := 0
	for _, g := range p.gens {
		n += len(g.text)
	}
	for _, s := range p.open {
		n += len(s.text)
	}
	return n
}

// expired is the live generations that do not stay.
func (p *plain) expired(k api.Keep) []api.Held {
	var l []api.Held
	for _, name := range p.files() {
		live := p.liveOf(name)
		slices.Reverse(live)
		var spans []int
		for i, g := range live {
			span := g.time / k.Step
			first := !slices.Contains(spans, span)
			if first {
				spans = append(spans, span)
			}
			if i < k.Last || g.time > p.now-k.Young || first && len(spans) <= k.Count {
				continue
			}
			l = append(l, api.Held{Name: name, Gen: g.gen})
		}
	}
	return l
}

func fails(e api.Errno) api.Answer { return api.Answer{Errno: e} }

func (p *plain) do(o api.Op, space bool) api.Answer {
	switch o.Do {
	case api.Begin, api.Abort, api.Write, api.Commit:
		return p.doSession(o, space)
	case api.Read, api.Range, api.Stat, api.Delete:
		return p.doGen(o)
	case api.Shown, api.Snap, api.Unsnap:
		return p.doShot(o, space)
	case api.List:
		return api.Answer{Names: p.names()}
	case api.Tick:
		if o.N < 0 || o.N > api.MaxNum-p.now {
			return fails(api.ErrArg)
		}
		p.now += o.N
		return api.Answer{}
	case api.Expire:
		for _, n := range []int{o.Keep.Last, o.Keep.Young, o.Keep.Step - 1, o.Keep.Count} {
			if n < 0 || n > api.MaxNum || o.Keep.Step > api.MaxNum {
				return fails(api.ErrArg)
			}
		}
		l := p.expired(o.Keep)
		p.drop(l)
		return api.Answer{N: len(l)}
	case api.Clean:
		if o.N < 0 || o.N > 100 {
			return fails(api.ErrArg)
		}
		if space {
			return fails(api.ErrSpace)
		}
		return api.Answer{}
	case api.Scrub, api.Rebuild, api.Trip, api.Fall, api.Mount, api.Rot:
		return api.Answer{}
	}
	return fails(api.ErrForm)
}

func (p *plain) doSession(o api.Op, space bool) api.Answer {
	if o.Do == api.Begin {
		if !record.Name(o.Name) {
			return fails(api.ErrArg)
		}
		if len(p.open) == api.MaxOpen {
			return fails(api.ErrLimit)
		}
		p.began++
		p.open = append(slices.Clone(p.open), plainOpen{n: p.began, name: o.Name})
		return api.Answer{N: p.began}
	}
	i := p.session(o.N)
	if i < 0 {
		return fails(api.ErrGone)
	}
	s := p.open[i]
	p.close(s.n)
	switch o.Do {
	case api.Write:
		if len(s.text)+len(o.Bytes) > api.MaxFile {
			return fails(api.ErrLimit)
		}
		s.text += string(o.Bytes)
		if p.quota > 0 && p.all()+len(s.text) > p.quota {
			return fails(api.ErrQuota)
		}
		if space {
			return fails(api.ErrSpace)
		}
		p.open = append(p.open, s)
	case api.Commit:
		l := p.of(s.name)
		if len(l) == 0 && len(p.files()) == api.MaxFiles || len(l) == api.MaxGens {
			return fails(api.ErrLimit)
		}
		if space {
			return fails(api.ErrSpace)
		}
		g := plainGen{name: s.name, gen: 1, time: p.now, text: s.text}
		if len(l) > 0 {
			g.gen = l[len(l)-1].gen + 1
		}
		p.gens = append(slices.Clone(p.gens), g)
		return api.Answer{N: g.gen}
	}
	return api.Answer{}
}

func (p *plain) doGen(o api.Op) api.Answer {
	g, is := p.get(o.Name, o.Gen)
	if !is {
		return fails(api.ErrGone)
	}
	switch o.Do {
	case api.Read:
		return api.Answer{Bytes: []byte(g.text)}
	case api.Stat:
		return api.Answer{N: len(g.text)}
	case api.Delete:
		p.drop([]api.Held{{Name: g.name, Gen: g.gen}})
		return api.Answer{}
	}
	if o.From < 0 || o.From > len(g.text) || o.Size < 0 {
		return fails(api.ErrArg)
	}
	var b []byte
	for i := o.From; i < len(g.text) && i-o.From < o.Size; i++ {
		b = append(b, g.text[i])
	}
	return api.Answer{Bytes: b}
}

func (p *plain) doShot(o api.Op, space bool) api.Answer {
	i := p.shot(o.Shot)
	if o.Do == api.Shown {
		if i < 0 {
			return fails(api.ErrGone)
		}
		for _, h := range p.shots[i].held {
			for _, g := range p.of(o.Name) {
				if (api.Held{Name: g.name, Gen: g.gen}) == h {
					return api.Answer{Bytes: []byte(g.text)}
				}
			}
		}
		return fails(api.ErrGone)
	}
	if !record.Name(o.Shot) {
		return fails(api.ErrArg)
	}
	if o.Do == api.Unsnap {
		if i < 0 {
			return fails(api.ErrGone)
		}
		p.shots = slices.Delete(slices.Clone(p.shots), i, i+1)
		p.sweep()
		return api.Answer{}
	}
	if i >= 0 {
		return fails(api.ErrKnown)
	}
	if len(p.shots) == api.MaxSnaps {
		return fails(api.ErrLimit)
	}
	if space {
		return fails(api.ErrSpace)
	}
	p.shots = append(slices.Clone(p.shots), plainShot{o.Shot, p.names()})
	return api.Answer{}
}

// same: are files, snapshots and time alike?
func (p *plain) same(q *plain) bool {
	byName := func(a, b plainGen) int { return cmp.Or(cmp.Compare(a.name, b.name), a.gen-b.gen) }
	byShot := func(a, b plainShot) int { return cmp.Compare(a.name, b.name) }
	sameShot := func(a, b plainShot) bool { return a.name == b.name && slices.Equal(a.held, b.held) }
	return p.now == q.now && slices.Equal(slices.SortedFunc(slices.Values(p.gens), byName), slices.SortedFunc(slices.Values(q.gens), byName)) &&
		slices.EqualFunc(slices.SortedFunc(slices.Values(p.shots), byShot), slices.SortedFunc(slices.Values(q.shots), byShot), sameShot)
}
