package record

import (
	"aumbry/api"
	"aumbry/octet"
)

// Put is facts' bytes.
func Put(l []api.Fact) ([]byte, api.Errno) {
	if len(l) == 0 {
		return nil, api.ErrArg
	}
	if len(l) > api.MaxFacts {
		return nil, api.ErrLimit
	}
	for _, f := range l {
		if e := Check(f); e != api.OK {
			return nil, e
		}
	}
	var s sheet
	s.nums(len(l))
	for _, f := range l {
		s.nums(int(f.Kind))
		lay := wayOf(f.Kind).lay
		lay(&s, f)
	}
	return s.bytes, api.OK
}

// way is how the facts of a kind are laid, and how they are taken.
type way struct {
	lay  func(*sheet, api.Fact)
	take func(*taker, *api.Fact)
}

// wayOf is the way of a kind; one that is none has no way.
func wayOf(k api.Kind) way {
	switch k {
	case api.Laid:
		return way{(*sheet).laid, (*taker).laid}
	case api.Freed:
		return way{(*sheet).freed, (*taker).freed}
	case api.Filed:
		return way{(*sheet).filed, (*taker).filed}
	case api.Dropped:
		return way{(*sheet).dropped, (*taker).dropped}
	case api.Snapped:
		return way{(*sheet).snapped, (*taker).snapped}
	case api.Unsnapped:
		return way{(*sheet).unsnapped, (*taker).unsnapped}
	case api.Moved:
		return way{(*sheet).moved, (*taker).moved}
	case api.Ticked:
		return way{(*sheet).ticked, (*taker).ticked}
	case api.Expired:
		return way{(*sheet).expired, (*taker).expired}
	}
	return way{}
}

// sheet is bytes, behind which facts are laid. All that comes here is within its limits, as facts with a fault don't: octet has no error.
type sheet struct{ bytes []byte }

func (s *sheet) nums(numbers ...int) {
	for _, n := range numbers {
		b, _ := octet.Num(n)
		s.bytes = append(s.bytes, b...)
	}
}

func (s *sheet) name(name string) {
	b, _ := octet.Text([]byte(name), api.MaxName)
	s.bytes = append(s.bytes, b...)
}

func (s *sheet) laid(f api.Fact) { s.nums(f.Place.Bin, f.Place.Run.At, f.Place.Run.N) }

func (s *sheet) freed(f api.Fact) { s.nums(f.Place.Bin) }

func (s *sheet) filed(f api.Fact) {
	s.name(f.Name)
	s.nums(f.Gen, f.Time, len(f.Refs))
	for _, r := range f.Refs {
		s.bytes = append(s.bytes, r.Sum[:]...)
		s.nums(r.Len, r.Bin, r.Slot)
	}
}

func (s *sheet) dropped(f api.Fact) {
	s.name(f.Name)
	s.nums(f.Gen)
}

func (s *sheet) snapped(f api.Fact) {
	s.name(f.Name)
	s.nums(f.Time, len(f.Held))
	for _, h := range f.Held {
		s.name(h.Name)
		s.nums(h.Gen)
	}
}

func (s *sheet) unsnapped(f api.Fact) { s.name(f.Name) }

func (s *sheet) moved(f api.Fact) {
	s.nums(len(f.Moves))
	for _, m := range f.Moves {
		s.nums(m.From.Bin, m.From.Slot, m.To.Bin, m.To.Slot)
	}
}

func (s *sheet) ticked(f api.Fact) { s.nums(f.Time) }

func (s *sheet) expired(f api.Fact) { s.nums(f.Keep.Last, f.Keep.Young, f.Keep.Step, f.Keep.Count) }
