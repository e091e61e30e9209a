package vault

import (
	"slices"

	"aumbry/api"
	"aumbry/clean"
	"aumbry/pack"
	"aumbry/recipe"
)

const maxLoad = 200 // containers that one transaction frees

// load is containers that are cleaned by one transaction: their live chunks are in one packer.
type load struct {
	packer *pack.Packer
	number int // the packer's
	old    []int
	moves  []api.Move
}

// clean copies forward what is live of containers of which little is.
func (s *store) clean(percent int) api.Answer {
	live := s.liveSpots()
	shares := clean.Shares(s.fills(), live)
	chosen, e := clean.Choose(shares, percent, len(shares))
	if e != api.OK {
		return answer(e)
	}
	copies := func(bin int) []int { return clean.Copies(bin, live) }
	gone := 0
	for len(chosen) > 0 {
		l, left := s.newLoad(chosen, copies)
		if e := s.forward(l); e != api.OK {
			return answer(e)
		}
		gone += len(l.old)
		chosen = left
	}
	return api.Answer{N: gone}
}

// liveSpots is where the chunks of files and sessions lie.
func (s *store) liveSpots() []api.Spot {
	return recipe.Spots(slices.Concat(s.book.Live(), s.sessionRefs()))
}

// fills is the containers that the journal knows and whose heads can be read.
func (s *store) fills() []api.Fill {
	var l []api.Fill
	for _, p := range placesOf(s.known) {
		head, e := s.shelf.Head(p.Bin)
		if e != api.OK {
			continue
		}
		f := api.Fill{Bin: p.Bin}
		for _, slot := range head.Slots {
			f.Lens = append(f.Lens, slot.Len)
		}
		l = append(l, f)
	}
	return l
}

// newLoad is as many of the chosen containers, from the first on, as go together, and those behind them. One whose chunks can't be told, or that has more of them than fit into any packer, is left out.
func (s *store) newLoad(chosen []int, copies func(bin int) []int) (*load, []int) {
	l := &load{}
	l.packer, l.number = s.newPacker()
	for i, bin := range chosen {
		slots := copies(bin)
		chunks, is := s.chunks(bin, slots)
		if !is {
			continue
		}
		if !l.take(bin, slots, chunks) && len(l.old) > 0 {
			return l, chosen[i:]
		}
	}
	return l, nil
}

// chunks is some chunks of a container; false, if they can't all be told.
func (s *store) chunks(bin int, slots []int) ([][]byte, bool) {
	var l [][]byte
	for _, slot := range slots {
		b, e := s.shelf.Chunk(bin, slot)
		if e != api.OK {
			return nil, false
		}
		l = append(l, b)
	}
	return l, true
}

// take takes a container in, with the chunks of those slots, if there is room for all of them.
func (l *load) take(bin int, slots []int, chunks [][]byte) bool {
	if len(l.old) >= maxLoad {
		return false
	}
	packer, moves := l.packer.Fork(), slices.Clone(l.moves)
	for i, b := range chunks {
		slot, e := packer.Add(b)
		if e != api.OK {
			return false
		}
		moves = append(moves, api.Move{From: api.Spot{Bin: bin, Slot: slots[i]}, To: api.Spot{Bin: l.number, Slot: slot}})
	}
	l.packer, l.moves, l.old = packer, moves, append(l.old, bin)
	return true
}

// forward has the chunks of a load lie in their new container, and its old ones be free.
func (s *store) forward(l *load) api.Errno {
	if len(l.old) == 0 {
		return api.OK
	}
	var facts []api.Fact
	if len(l.moves) > 0 {
		p, e := s.shelf.Seal(l.packer)
		if e != api.OK {
			return e
		}
		facts = append(facts, api.Fact{Kind: api.Laid, Place: p}, api.Fact{Kind: api.Moved, Moves: l.moves})
	}
	for _, bin := range l.old {
		facts = append(facts, api.Fact{Kind: api.Freed, Place: api.Place{Bin: bin}})
	}
	if e := s.transact(facts...); e != api.OK {
		// If nothing was sealed, there is no container of that number, and nothing to be freed.
		s.shelf.Free(l.number)
		return e
	}
	for _, bin := range l.old {
		s.shelf.Free(bin)
		s.index.Forget(bin)
	}
	for _, x := range s.sessions {
		x.refs, _ = recipe.Move(x.refs, l.moves)
	}
	// If nothing was sealed, there is nothing to be learnt.
	s.learn(l.number)
	return api.OK
}
