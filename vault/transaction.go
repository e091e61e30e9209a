package vault

import (
	"maps"
	"slices"
	"sort"

	"aumbry/api"
	"aumbry/names"
	"aumbry/record"
)

const leafBytes = 108 // of a record, in a sector of the journal

// transact has facts be so, all of them or none.
func (s *store) transact(facts ...api.Fact) api.Errno {
	rec, e := record.Put(facts)
	if e != api.OK {
		return e
	}
	if len(rec) > api.MaxRec {
		return api.ErrSpace
	}
	book, known := s.book.Fork(), maps.Clone(s.known)
	for _, f := range facts {
		if e := book.Apply(f); e != api.OK {
			return e
		}
		note(known, f)
	}
	if slices.ContainsFunc(facts, takesRoom) && mostLeaves(book, known) > s.config.Area-1 {
		return api.ErrSpace
	}
	if e := s.lay(rec); e != api.OK {
		return e
	}
	s.book, s.known = book, known
	return api.OK
}

// lay makes a record sure. What it speaks of is sure ahead of it: so a record that outlives a crash tells nothing that did not.
func (s *store) lay(rec []byte) api.Errno {
	if e := s.disk.Flush(); e != api.OK {
		return e
	}
	e := s.log.Append(rec)
	if e == api.ErrSpace {
		e = s.layAnew(rec)
	}
	if e != api.OK {
		return e
	}
	return s.log.Flush()
}

// layAnew has the journal be as short as it can be, ahead of a record.
func (s *store) layAnew(rec []byte) api.Errno {
	if e := s.log.Renew(recordsOf(factsOf(s.book, s.known))); e != api.OK {
		return e
	}
	return s.log.Append(rec)
}

// takesRoom: may more be so for good behind such a fact? What takes things away has to find room at any time.
func takesRoom(f api.Fact) bool {
	switch f.Kind {
	case api.Laid, api.Filed, api.Snapped, api.Moved:
		return true
	}
	return false
}

// factsOf is all that is so.
func factsOf(b *names.Book, known map[int]api.Place) []api.Fact {
	var l []api.Fact
	for _, p := range placesOf(known) {
		l = append(l, api.Fact{Kind: api.Laid, Place: p})
	}
	return append(l, b.Facts()...)
}

// recordsOf is facts as records: in each as many as it takes, and at least one.
func recordsOf(facts []api.Fact) [][]byte {
	var l [][]byte
	for len(facts) > 0 {
		n := 1 + sort.Search(len(facts)-1, func(more int) bool { return !fits(facts[:more+2]) })
		rec, _ := record.Put(facts[:n])
		l = append(l, rec)
		facts = facts[n:]
	}
	return l
}

// fits: may facts stand in one record?
func fits(facts []api.Fact) bool {
	rec, e := record.Put(facts)
	return e == api.OK && len(rec) <= api.MaxRec
}

// mostLeaves is how many sectors all that is so takes at most, whatever time it gets to be, and whatever is dropped that snapshots hold.
func mostLeaves(b *names.Book, known map[int]api.Place) int {
	facts := factsOf(b, known)
	for i := range facts {
		if facts[i].Kind == api.Ticked {
			facts[i].Time = api.MaxNum
		}
	}
	for _, shot := range b.Shots() {
		for _, h := range shot.Held {
			facts = append(facts, api.Fact{Kind: api.Dropped, Name: h.Name, Gen: h.Gen})
		}
	}
	size := 0
	for _, f := range facts {
		rec, _ := record.Put([]api.Fact{f})
		size += len(rec)
	}
	// Each record has a sector that is not full, and no two records, one behind the other, would have room in one.
	records := 2 + 2*(size/api.MaxRec+len(facts)/api.MaxFacts)
	return size/leafBytes + 1 + 2*records
}
