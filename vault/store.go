package vault

import (
	"maps"
	"slices"

	"aumbry/api"
	"aumbry/bin"
	"aumbry/disk"
	"aumbry/extent"
	"aumbry/gear"
	"aumbry/ingest"
	"aumbry/journal"
	"aumbry/names"
	"aumbry/record"
)

const (
	cellAt  = 0 // where the journal's cell begins
	cellRun = 2 // sectors of it
	areas   = 2
)

// store is what there is of an appliance while it is mounted.
type store struct {
	config   api.Config
	disk     *disk.Disk
	log      *journal.Log
	shelf    *bin.Shelf // with the containers of sessions, which the journal does not know yet
	book     *names.Book
	index    *ingest.Index
	table    [256]uint32       // by which streams are cut
	known    map[int]api.Place // the containers that the journal knows, by their numbers
	sessions map[int]*session  // by their numbers
}

// areasEnd is where containers may begin.
func areasEnd(c api.Config) int { return cellRun + areas*c.Area }

// storeOn is the store that a disk has.
func storeOn(c api.Config, d *disk.Disk) (*store, api.Errno) {
	first := api.Run{At: cellAt + cellRun, N: c.Area}
	second := api.Run{At: first.At + first.N, N: c.Area}
	log, e := journal.Open(d, cellAt, first, second)
	if e != api.OK {
		return nil, e
	}
	s := empty(c, d, log)
	for _, rec := range log.Records() {
		if !s.recall(rec) {
			return nil, api.ErrRot
		}
	}
	if e := log.Renew(recordsOf(factsOf(s.book, s.known))); e != api.OK {
		return nil, e
	}
	s.rebuild()
	return s, api.OK
}

// empty is a store without files and containers. As the layout is right, no part of it has an error.
func empty(c api.Config, d *disk.Disk, log *journal.Log) *store {
	free, _ := extent.New(areasEnd(c), c.Sectors)
	shelf, _ := bin.New(d, free)
	index, _ := ingest.New(c.Tune)
	return &store{
		config: c, disk: d, log: log, shelf: shelf, book: names.New(), index: index, table: gear.Table(uint64(c.Tune.Seed)),
		known: map[int]api.Place{}, sessions: map[int]*session{},
	}
}

// recall has the facts of a record be so; false, if it is none, or a fact can't be so.
func (s *store) recall(rec []byte) bool {
	facts, e := record.Take(rec)
	if e != api.OK {
		return false
	}
	for _, f := range facts {
		if s.book.Apply(f) != api.OK || s.shelve(f) != api.OK {
			return false
		}
		note(s.known, f)
	}
	return true
}

// shelve has a fact be so on the shelf.
func (s *store) shelve(f api.Fact) api.Errno {
	switch f.Kind {
	case api.Laid:
		return s.shelf.Claim(f.Place)
	case api.Freed:
		return s.shelf.Free(f.Place.Bin)
	}
	return api.OK
}

// note has a fact be so among the containers that are known.
func note(known map[int]api.Place, f api.Fact) {
	switch f.Kind {
	case api.Laid:
		known[f.Place.Bin] = f.Place
	case api.Freed:
		delete(known, f.Place.Bin)
	}
}

// placesOf is containers, by their numbers.
func placesOf(known map[int]api.Place) []api.Place {
	l := make([]api.Place, 0, len(known))
	for _, number := range slices.Sorted(maps.Keys(known)) {
		l = append(l, known[number])
	}
	return l
}

// do does an operation of an appliance that is up, but Begin.
func (s *store) do(o api.Op) api.Answer {
	switch o.Do {
	case api.Write:
		return s.write(o.N, o.Bytes)
	case api.Commit:
		return s.commit(o.N)
	case api.Abort:
		return s.abort(o.N)
	case api.Read:
		return s.read(o.Name, o.Gen)
	case api.Range:
		return s.part(o)
	case api.Shown:
		return s.shown(o.Shot, o.Name)
	case api.Stat:
		return s.stat(o.Name, o.Gen)
	case api.List:
		return api.Answer{Names: s.book.Newest()}
	case api.Delete:
		return s.remove(o.Name, o.Gen)
	case api.Snap:
		return s.snap(o.Shot)
	case api.Unsnap:
		return s.unsnap(o.Shot)
	case api.Tick:
		return s.tick(o.N)
	case api.Expire:
		return s.expire(o.Keep)
	case api.Clean:
		return s.clean(o.N)
	case api.Scrub:
		return s.scrub()
	}
	// Nothing else is left but Rebuild.
	s.rebuild()
	return api.Answer{}
}
