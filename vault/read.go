package vault

import (
	"maps"
	"slices"

	"aumbry/api"
	"aumbry/digest"
	"aumbry/recipe"
)

func (s *store) read(name string, gen int) api.Answer {
	v, e := s.book.Get(name, gen)
	if e != api.OK {
		return answer(e)
	}
	return s.bytes(v.Refs, 0, recipe.Size(v.Refs))
}

// part is what Range tells.
func (s *store) part(o api.Op) api.Answer {
	v, e := s.book.Get(o.Name, o.Gen)
	if e != api.OK {
		return answer(e)
	}
	return s.bytes(v.Refs, o.From, o.Size)
}

func (s *store) shown(shot, name string) api.Answer {
	v, e := s.book.Via(shot, name)
	if e != api.OK {
		return answer(e)
	}
	return s.bytes(v.Refs, 0, recipe.Size(v.Refs))
}

func (s *store) stat(name string, gen int) api.Answer {
	v, e := s.book.Get(name, gen)
	if e != api.OK {
		return answer(e)
	}
	return api.Answer{N: recipe.Size(v.Refs)}
}

// bytes is some bytes of a file. Only the chunks that have them are read: what rots elsewhere does no harm.
func (s *store) bytes(l []api.Ref, from, n int) api.Answer {
	// What is filed is right.
	r, _ := recipe.New(l)
	pieces, e := r.Cut(from, n)
	if e != api.OK {
		return answer(e)
	}
	var told []byte
	for _, p := range pieces {
		b, is := s.chunk(l[p.I])
		if !is {
			return answer(api.ErrRot)
		}
		told = append(told, b[p.From:p.From+p.N]...)
	}
	return api.Answer{Bytes: told}
}

// chunk is a chunk's bytes; false, if they can't be told, or are another one's: a container may have come to be another one, whole in itself.
func (s *store) chunk(r api.Ref) ([]byte, bool) {
	b, e := s.shelf.Chunk(r.Bin, r.Slot)
	if e != api.OK || len(b) != r.Len || digest.Sum(b) != r.Sum {
		return nil, false
	}
	return b, true
}

// scrub counts the chunks that can't be read, of those that files and sessions have.
func (s *store) scrub() api.Answer {
	n := 0
	seen := map[api.Spot]struct{}{}
	for _, r := range slices.Concat(s.book.Live(), s.sessionRefs()) {
		spot := api.Spot{Bin: r.Bin, Slot: r.Slot}
		if _, is := seen[spot]; is {
			continue
		}
		seen[spot] = struct{}{}
		if _, is := s.chunk(r); !is {
			n++
		}
	}
	return api.Answer{N: n}
}

// sessionRefs is the refs of sessions that lie in no packer.
func (s *store) sessionRefs() []api.Ref {
	var l []api.Ref
	for _, n := range slices.Sorted(maps.Keys(s.sessions)) {
		x := s.sessions[n]
		inPacker := func(r api.Ref) bool { return x.packer != nil && r.Bin == x.number }
		l = append(l, slices.DeleteFunc(slices.Clone(x.refs), inPacker)...)
	}
	return l
}

// rebuild has the index know the containers that the journal knows, and nothing else.
func (s *store) rebuild() {
	s.index.Clear()
	for _, p := range placesOf(s.known) {
		s.learn(p.Bin)
	}
}

// learn has the index know a container, if its head can be read.
func (s *store) learn(bin int) {
	if l, is := s.sums(bin); is {
		s.index.Learn(bin, l)
	}
}

// sums is the sums of a container's chunks, as its head has them.
func (s *store) sums(bin int) ([]api.Sum, bool) {
	head, e := s.shelf.Head(bin)
	if e != api.OK {
		return nil, false
	}
	l := make([]api.Sum, 0, len(head.Slots))
	for _, slot := range head.Slots {
		l = append(l, slot.Sum)
	}
	return l, true
}
