package vault

import (
	"bytes"

	"aumbry/api"
	"aumbry/digest"
	"aumbry/gear"
	"aumbry/pack"
	"aumbry/recipe"
	"aumbry/record"
	"aumbry/segment"
)

// session is a file that is being written.
type session struct {
	name   string
	size   int // bytes, up to now
	cutter *gear.Cutter
	waits  []chunk      // that are not looked for yet
	refs   []api.Ref    // of the chunks ahead of these
	packer *pack.Packer // nil: there is none
	number int          // the packer's, if there is one
	sealed []api.Place  // which the journal does not know
}

// chunk is a chunk that waits.
type chunk struct {
	sum   api.Sum
	bytes []byte
}

func (s *store) begin(n int, name string) api.Errno {
	if !record.Name(name) {
		return api.ErrArg
	}
	if len(s.sessions) >= api.MaxOpen {
		return api.ErrLimit
	}
	// As the layout is right, there is no error.
	cutter, _ := gear.New(s.config.Tune.Cut, s.table)
	s.sessions[n] = &session{name: name, cutter: cutter}
	return api.OK
}

func (s *store) abort(n int) api.Answer {
	if s.sessions[n] == nil {
		return answer(api.ErrGone)
	}
	s.give(n)
	return api.Answer{}
}

// give has a session be there no more, and frees what it sealed.
func (s *store) give(n int) {
	for _, p := range s.sessions[n].sealed {
		s.shelf.Free(p.Bin)
	}
	delete(s.sessions, n)
}

func (s *store) write(n int, b []byte) api.Answer {
	x := s.sessions[n]
	if x == nil {
		return answer(api.ErrGone)
	}
	if e := s.cut(x, b); e != api.OK {
		s.give(n)
		return answer(e)
	}
	return api.Answer{}
}

// cut takes more bytes of a session's stream.
func (s *store) cut(x *session, b []byte) api.Errno {
	if len(b) > api.MaxFile-x.size {
		return api.ErrLimit
	}
	if quota := s.config.Quota; quota > 0 && len(b) > quota-s.size() {
		return api.ErrQuota
	}
	x.size += len(b)
	// The stream of a session that is there has not ended.
	chunks, _ := x.cutter.Write(b)
	for _, c := range chunks {
		x.wait(c)
		if !segment.Ends(x.waitingRefs(), s.config.Tune.Seg) {
			continue
		}
		if e := s.settle(x); e != api.OK {
			return e
		}
	}
	return api.OK
}

// size is how many bytes all generations and sessions have.
func (s *store) size() int {
	n := 0
	for _, f := range s.book.Files() {
		for _, v := range f.Versions {
			n += recipe.Size(v.Refs)
		}
	}
	for _, x := range s.sessions {
		n += x.size
	}
	return n
}

func (s *store) commit(n int) api.Answer {
	x := s.sessions[n]
	if x == nil {
		return answer(api.ErrGone)
	}
	gen, e := s.file(x)
	if e != api.OK {
		s.give(n)
		return answer(e)
	}
	delete(s.sessions, n)
	return api.Answer{N: gen}
}

// file has a session's stream be a file's next generation.
func (s *store) file(x *session) (int, api.Errno) {
	filed := api.Fact{Kind: api.Filed, Name: x.name, Gen: s.book.Next(x.name), Time: s.book.Now()}
	// Too many files or generations are told ahead of all that is written for this one.
	if e := s.book.Check(filed); e != api.OK {
		return 0, e
	}
	if e := s.end(x); e != api.OK {
		return 0, e
	}
	var facts []api.Fact
	for _, p := range x.sealed {
		facts = append(facts, api.Fact{Kind: api.Laid, Place: p})
	}
	filed.Refs = x.refs
	if e := s.transact(append(facts, filed)...); e != api.OK {
		return 0, e
	}
	for _, p := range x.sealed {
		s.learn(p.Bin)
	}
	return filed.Gen, api.OK
}

// end has all chunks of a session lie in containers.
func (s *store) end(x *session) api.Errno {
	// A session's stream ends once.
	last, _ := x.cutter.End()
	if len(last) > 0 {
		x.wait(last)
	}
	if e := s.settle(x); e != api.OK {
		return e
	}
	return s.seal(x)
}

// wait has a chunk wait, till there is a segment, or the stream ends.
func (x *session) wait(b []byte) {
	x.waits = append(x.waits, chunk{digest.Sum(b), b})
}

// waitingRefs is the chunks that wait, as refs that do not say yet where they lie.
func (x *session) waitingRefs() []api.Ref {
	var l []api.Ref
	for _, c := range x.waits {
		l = append(l, api.Ref{Sum: c.sum, Len: len(c.bytes)})
	}
	return l
}

// settle has all chunks that wait lie somewhere.
func (s *store) settle(x *session) api.Errno {
	var sums []api.Sum
	for _, c := range x.waits {
		sums = append(sums, c.sum)
	}
	refs := x.waitingRefs()
	for i, g := range s.index.Seek(sums, s.sums) {
		spot, e := s.spot(x, x.waits[i], s.guessed(g), x.packed)
		if e != api.OK {
			return e
		}
		refs[i].Bin, refs[i].Slot = spot.Bin, spot.Slot
		x.refs = append(x.refs, refs[i])
	}
	x.waits = nil
	return api.OK
}

// spot is where a chunk lies: where the first of the functions finds it, or else it is packed.
func (s *store) spot(x *session, c chunk, finds ...func(chunk) (api.Spot, bool)) (api.Spot, api.Errno) {
	for _, find := range finds {
		if spot, is := find(c); is {
			return spot, api.OK
		}
	}
	return s.pack(x, c.bytes)
}

// guessed finds a chunk where it is guessed, if it lies there. A guess may be of what has rotted since.
func (s *store) guessed(g api.Guess) func(chunk) (api.Spot, bool) {
	return func(c chunk) (api.Spot, bool) {
		if _, is := s.known[g.Spot.Bin]; !g.Is || !is {
			return api.Spot{}, false
		}
		b, e := s.shelf.Chunk(g.Spot.Bin, g.Spot.Slot)
		return g.Spot, e == api.OK && bytes.Equal(b, c.bytes)
	}
}

// packed finds a chunk in a session's own packer, by its bytes: unlike chunks may have one sum.
func (x *session) packed(c chunk) (api.Spot, bool) {
	for slot := range x.packer.Len() {
		// There is such a slot: there is no error.
		b, _ := x.packer.Chunk(slot)
		if bytes.Equal(b, c.bytes) {
			return api.Spot{Bin: x.number, Slot: slot}, true
		}
	}
	return api.Spot{}, false
}

// pack packs a chunk, into a new packer, if it does not fit.
func (s *store) pack(x *session, b []byte) (api.Spot, api.Errno) {
	if x.packer.Room() < len(b) {
		if e := s.seal(x); e != api.OK {
			return api.Spot{}, e
		}
		x.packer, x.number = s.newPacker()
	}
	slot, e := x.packer.Add(b)
	return api.Spot{Bin: x.number, Slot: slot}, e
}

// seal lays a session's packer down, if there is one.
func (s *store) seal(x *session) api.Errno {
	if x.packer == nil {
		return api.OK
	}
	p, e := s.shelf.Seal(x.packer)
	if e != api.OK {
		return e
	}
	x.sealed = append(x.sealed, p)
	x.packer = nil
	return api.OK
}

// newPacker is a packer, and its number: the least one that no container and no session's packer has.
func (s *store) newPacker() (*pack.Packer, int) {
	taken := map[int]struct{}{}
	for _, p := range s.shelf.Places() {
		taken[p.Bin] = struct{}{}
	}
	for _, x := range s.sessions {
		if x.packer != nil {
			taken[x.number] = struct{}{}
		}
	}
	number := leastBeside(taken)
	// It is below MaxBins, as each container has two sectors at least: there is no error.
	p, _ := pack.New(number, s.config.Tune.Wide)
	return p, number
}

// leastBeside is the least number that is not taken.
func leastBeside(taken map[int]struct{}) int {
	for n := 0; ; n++ {
		if _, is := taken[n]; !is {
			return n
		}
	}
}
