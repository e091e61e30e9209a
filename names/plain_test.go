package names_test

import (
	"cmp"
	"slices"

	"aumbry/api"
	"aumbry/record"
)

// plain is a book by the chapter's words: a row of generations, in no order, and one of snapshots.
type plain struct {
	now   int
	gens  []plainGen
	shots []api.Shot
}

type plainGen struct {
	name string
	api.Version
}

// sorted is all generations, by names and generations.
func (p *plain) sorted() []plainGen {
	l := slices.Clone(p.gens)
	slices.SortFunc(l, func(a, b plainGen) int { return cmp.Or(cmp.Compare(a.name, b.name), a.Gen-b.Gen) })
	return l
}

// of is the generations of a file.
func (p *plain) of(name string) []plainGen {
	return slices.DeleteFunc(p.sorted(), func(g plainGen) bool { return g.name != name })
}

// liveOf is those of them that are live.
func (p *plain) liveOf(name string) []plainGen {
	return slices.DeleteFunc(p.of(name), func(g plainGen) bool { return g.Gone })
}

// files is the names of all files.
func (p *plain) files() []string {
	var l []string
	for _, g := range p.sorted() {
		if !slices.Contains(l, g.name) {
			l = append(l, g.name)
		}
	}
	return l
}

func (p *plain) isLive(h api.Held) bool {
	return slices.ContainsFunc(p.liveOf(h.Name), func(g plainGen) bool { return g.Gen == h.Gen })
}

func (p *plain) isShot(name string) bool {
	return slices.ContainsFunc(p.shots, func(s api.Shot) bool { return s.Name == name })
}

func (p *plain) check(f api.Fact) api.Errno {
	if e := record.Check(f); e != api.OK {
		return e
	}
	bad := func(wrong bool, e api.Errno) api.Errno {
		if wrong {
			return e
		}
		return api.OK
	}
	switch f.Kind {
	case api.Ticked:
		return bad(f.Time < p.now, api.ErrArg)
	case api.Filed:
		l := p.of(f.Name)
		above := true
		for _, g := range l {
			above = above && f.Gen > g.Gen
		}
		return cmp.Or(bad(f.Time > p.now, api.ErrArg), bad(!above, api.ErrKnown), bad(len(l) == 0 && len(p.files()) == api.MaxFiles || len(l) == api.MaxGens, api.ErrLimit))
	case api.Dropped:
		return bad(!p.isLive(api.Held{Name: f.Name, Gen: f.Gen}), api.ErrGone)
	case api.Snapped:
		live, rise := true, true
		for i, h := range f.Held {
			live = live && p.isLive(h)
			rise = rise && (i == 0 || f.Held[i-1].Name < h.Name)
		}
		return cmp.Or(bad(f.Time > p.now, api.ErrArg), bad(p.isShot(f.Name), api.ErrKnown), bad(len(p.shots) == api.MaxSnaps, api.ErrLimit), bad(!live, api.ErrGone), bad(!rise, api.ErrForm))
	case api.Unsnapped:
		return bad(!p.isShot(f.Name), api.ErrGone)
	}
	return api.OK
}

func (p *plain) apply(f api.Fact) api.Errno {
	if e := p.check(f); e != api.OK {
		return e
	}
	switch f.Kind {
	case api.Ticked:
		p.now = f.Time
	case api.Filed:
		p.gens = append(p.gens, plainGen{f.Name, api.Version{Gen: f.Gen, Time: f.Time, Refs: slices.Clone(f.Refs)}})
	case api.Dropped:
		p.drop(api.Held{Name: f.Name, Gen: f.Gen})
	case api.Snapped:
		p.shots = append(p.shots, api.Shot{Name: f.Name, Time: f.Time, Held: slices.Clone(f.Held)})
	case api.Unsnapped:
		p.shots = slices.DeleteFunc(p.shots, func(s api.Shot) bool { return s.Name == f.Name })
	case api.Moved:
		p.move(f.Moves)
	case api.Expired:
		p.drop(p.expire(f.Keep)...)
	}
	// Whatever was done: what is gone is there only as long as a snapshot holds it.
	p.gens = slices.DeleteFunc(p.gens, func(g plainGen) bool {
		return g.Gone && !slices.ContainsFunc(p.shots, func(s api.Shot) bool { return slices.Contains(s.Held, api.Held{Name: g.name, Gen: g.Gen}) })
	})
	return api.OK
}

func (p *plain) drop(l ...api.Held) {
	for i, g := range p.gens {
		if slices.Contains(l, api.Held{Name: g.name, Gen: g.Gen}) {
			p.gens[i].Gone = true
		}
	}
}

func (p *plain) move(moves []api.Move) {
	for _, g := range p.gens {
		for i, r := range g.Refs {
			at := slices.IndexFunc(moves, func(m api.Move) bool { return m.From == api.Spot{Bin: r.Bin, Slot: r.Slot} })
			if at >= 0 {
				g.Refs[i].Bin, g.Refs[i].Slot = moves[at].To.Bin, moves[at].To.Slot
			}
		}
	}
}

// expire is the live ones for which none of the three is so.
func (p *plain) expire(k api.Keep) []api.Held {
	var out []api.Held
	for _, name := range p.files() {
		l := p.liveOf(name)
		for _, g := range l {
			greater, greatestOfSpan := 0, true
			laterSpans := map[int]bool{}
			for _, other := range l {
				if other.Gen > g.Gen {
					greater++
				}
				if other.Time/k.Step == g.Time/k.Step && other.Gen > g.Gen {
					greatestOfSpan = false
				}
				if other.Time/k.Step > g.Time/k.Step {
					laterSpans[other.Time/k.Step] = true
				}
			}
			if greater < k.Last || uint64(g.Time)+uint64(k.Young) > uint64(p.now) || greatestOfSpan && len(laterSpans) < k.Count {
				continue
			}
			out = append(out, api.Held{Name: name, Gen: g.Gen})
		}
	}
	return out
}

func (p *plain) told() []api.File {
	var l []api.File
	for _, name := range p.files() {
		f := api.File{Name: name}
		for _, g := range p.of(name) {
			f.Versions = append(f.Versions, g.Version)
		}
		l = append(l, f)
	}
	return l
}

func (p *plain) toldShots() []api.Shot {
	l := slices.Clone(p.shots)
	slices.SortFunc(l, func(a, b api.Shot) int { return cmp.Compare(a.Name, b.Name) })
	return l
}

func (p *plain) get(name string, gen int) (api.Version, api.Errno) {
	l := p.liveOf(name)
	if gen == 0 && len(l) > 0 {
		return l[len(l)-1].Version, api.OK
	}
	for _, g := range l {
		if g.Gen == gen {
			return g.Version, api.OK
		}
	}
	return api.Version{}, api.ErrGone
}

func (p *plain) via(shot, name string) (api.Version, api.Errno) {
	for _, s := range p.shots {
		for _, g := range p.gens {
			if s.Name == shot && g.name == name && slices.Contains(s.Held, api.Held{Name: name, Gen: g.Gen}) {
				return g.Version, api.OK
			}
		}
	}
	return api.Version{}, api.ErrGone
}

func (p *plain) newest() []api.Held {
	var l []api.Held
	for _, name := range p.files() {
		if live := p.liveOf(name); len(live) > 0 {
			l = append(l, api.Held{Name: name, Gen: live[len(live)-1].Gen})
		}
	}
	return l
}

func (p *plain) next(name string) int {
	n := 0
	for _, g := range p.of(name) {
		n = max(n, g.Gen)
	}
	return n + 1
}

func (p *plain) live() []api.Ref {
	var l []api.Ref
	for _, g := range p.sorted() {
		for _, r := range g.Refs {
			if !slices.ContainsFunc(l, func(other api.Ref) bool { return other.Bin == r.Bin && other.Slot == r.Slot }) {
				l = append(l, r)
			}
		}
	}
	slices.SortFunc(l, func(a, b api.Ref) int { return cmp.Or(a.Bin-b.Bin, a.Slot-b.Slot) })
	return l
}

func (p *plain) facts() []api.Fact {
	l := []api.Fact{{Kind: api.Ticked, Time: p.now}}
	for _, g := range p.sorted() {
		l = append(l, api.Fact{Kind: api.Filed, Name: g.name, Gen: g.Gen, Time: g.Time, Refs: g.Refs})
	}
	for _, s := range p.toldShots() {
		l = append(l, api.Fact{Kind: api.Snapped, Name: s.Name, Time: s.Time, Held: s.Held})
	}
	for _, g := range p.sorted() {
		if g.Gone {
			l = append(l, api.Fact{Kind: api.Dropped, Name: g.name, Gen: g.Gen})
		}
	}
	return l
}

func (p *plain) fork() *plain {
	other := &plain{now: p.now, gens: slices.Clone(p.gens), shots: slices.Clone(p.shots)}
	for i := range other.gens {
		other.gens[i].Refs = slices.Clone(other.gens[i].Refs)
	}
	return other
}
