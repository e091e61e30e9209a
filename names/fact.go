package names

import (
	"slices"

	"aumbry/api"
	"aumbry/recipe"
	"aumbry/record"
)

// Check is what is wrong with a fact.
func (b *Book) Check(f api.Fact) api.Errno {
	if !b.made() {
		return api.ErrNil
	}
	if e := record.Check(f); e != api.OK {
		return e
	}
	switch f.Kind {
	case api.Ticked:
		return unless(f.Time >= b.now, api.ErrArg)
	case api.Filed:
		return b.checkFiled(f)
	case api.Dropped:
		return unless(b.isLive(f.Name, f.Gen), api.ErrGone)
	case api.Snapped:
		return b.checkSnapped(f)
	case api.Unsnapped:
		return unless(b.isShot(f.Name), api.ErrGone)
	}
	return api.OK
}

// Apply has a fact be so.
func (b *Book) Apply(f api.Fact) api.Errno {
	if e := b.Check(f); e != api.OK {
		return e
	}
	switch f.Kind {
	case api.Ticked:
		b.now = f.Time
	case api.Filed:
		b.files[f.Name] = append(b.files[f.Name], copied(api.Version{Gen: f.Gen, Time: f.Time, Refs: f.Refs}))
	case api.Dropped:
		b.drop(f.Name, f.Gen)
	case api.Snapped:
		b.shots[f.Name] = api.Shot{Name: f.Name, Time: f.Time, Held: slices.Clone(f.Held)}
	case api.Unsnapped:
		b.unsnap(f.Name)
	case api.Moved:
		b.each(func(_ string, v *api.Version) { v.Refs, _ = recipe.Move(v.Refs, f.Moves) })
	case api.Expired:
		// A Keep that record lets through is right for Expire, too.
		l, _ := b.Expire(f.Keep)
		for _, h := range l {
			b.drop(h.Name, h.Gen)
		}
	}
	return api.OK
}

// Facts is facts that make a book like this.
func (b *Book) Facts() []api.Fact {
	if !b.made() {
		return nil
	}
	l := []api.Fact{{Kind: api.Ticked, Time: b.now}}
	var gone []api.Fact
	b.each(func(name string, v *api.Version) {
		l = append(l, api.Fact{Kind: api.Filed, Name: name, Gen: v.Gen, Time: v.Time, Refs: slices.Clone(v.Refs)})
		if v.Gone {
			gone = append(gone, api.Fact{Kind: api.Dropped, Name: name, Gen: v.Gen})
		}
	})
	for _, s := range b.Shots() {
		l = append(l, api.Fact{Kind: api.Snapped, Name: s.Name, Time: s.Time, Held: s.Held})
	}
	// A snapshot is of live ones: what is gone is dropped behind it.
	return append(l, gone...)
}

func unless(right bool, e api.Errno) api.Errno {
	if right {
		return api.OK
	}
	return e
}

func (b *Book) checkFiled(f api.Fact) api.Errno {
	versions, is := b.files[f.Name]
	if f.Time > b.now {
		return api.ErrArg
	}
	if f.Gen <= greatest(versions) {
		return api.ErrKnown
	}
	if !is && len(b.files) >= api.MaxFiles || len(versions) >= api.MaxGens {
		return api.ErrLimit
	}
	return api.OK
}

func (b *Book) checkSnapped(f api.Fact) api.Errno {
	if f.Time > b.now {
		return api.ErrArg
	}
	if b.isShot(f.Name) {
		return api.ErrKnown
	}
	if len(b.shots) >= api.MaxSnaps {
		return api.ErrLimit
	}
	for _, h := range f.Held {
		if !b.isLive(h.Name, h.Gen) {
			return api.ErrGone
		}
	}
	for i := 1; i < len(f.Held); i++ {
		if f.Held[i].Name <= f.Held[i-1].Name {
			return api.ErrForm
		}
	}
	return api.OK
}

func (b *Book) isShot(name string) bool {
	_, is := b.shots[name]
	return is
}

// isLive: has a file that generation, live?
func (b *Book) isLive(name string, gen int) bool {
	versions := b.files[name]
	i, is := search(versions, gen)
	return is && !versions[i].Gone
}

// isHeld: does a snapshot hold a file's generation?
func (b *Book) isHeld(name string, gen int) bool {
	for _, s := range b.shots {
		if held, is := heldGen(s, name); is && held == gen {
			return true
		}
	}
	return false
}

// drop has a generation that is there be gone; it stays as long as a snapshot holds it.
func (b *Book) drop(name string, gen int) {
	versions := b.files[name]
	i, _ := search(versions, gen)
	if b.isHeld(name, gen) {
		versions[i].Gone = true
		return
	}
	if len(versions) == 1 {
		delete(b.files, name)
		return
	}
	b.files[name] = slices.Delete(versions, i, i+1)
}

// unsnap takes a snapshot away, and what only it held.
func (b *Book) unsnap(name string) {
	held := b.shots[name].Held
	delete(b.shots, name)
	for _, h := range held {
		if !b.isLive(h.Name, h.Gen) {
			b.drop(h.Name, h.Gen)
		}
	}
}
