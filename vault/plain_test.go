package vault_test

import (
	"bytes"
	"maps"
	"slices"

	"aumbry/api"
	"aumbry/clean"
	"aumbry/digest"
	"aumbry/extent"
	"aumbry/gear"
	"aumbry/ingest"
	"aumbry/names"
	"aumbry/pack"
	"aumbry/recipe"
	"aumbry/record"
	"aumbry/segment"
)

// plain is an appliance by the chapter's words, without a disk: a container is its bytes, and a journal is how many sectors it takes.
type plain struct {
	c      api.Config
	up     bool
	began  int
	leaves int
	book   *names.Book
	index  *ingest.Index
	free   *extent.Map
	boxes  map[int]*box
	open   map[int]*open
}

type box struct {
	place api.Place
	image []byte
	known bool
}

type open struct {
	name   string
	size   int
	cutter *gear.Cutter
	waits  [][]byte
	refs   []api.Ref
	number int // of what is packed
	packed [][]byte
	sealed []int
}

func newPlain(c api.Config) *plain {
	p := &plain{c: c, book: names.New(), boxes: map[int]*box{}}
	p.do(api.Op{Do: api.Mount})
	return p
}

func fails(e api.Errno) api.Answer { return api.Answer{Errno: e} }

func (p *plain) do(o api.Op) api.Answer {
	switch {
	case o.Do < api.Begin || o.Do > api.Rot:
		return fails(api.ErrForm)
	case o.Do == api.Rot:
		return fails(p.rot(o.N, o.Bytes))
	case o.Do == api.Fall:
		p.up, p.open = false, nil
		for n, b := range p.boxes {
			if !b.known {
				delete(p.boxes, n)
			}
		}
		return api.Answer{}
	case o.Do == api.Mount && p.up:
		return fails(api.ErrState)
	case o.Do == api.Mount:
		p.mount()
		return api.Answer{}
	case !p.up:
		return fails(api.ErrDown)
	}
	switch o.Do {
	case api.Begin, api.Write, api.Commit, api.Abort:
		return p.doSession(o)
	case api.Clean:
		return p.clean(o.N)
	case api.Scrub:
		n := 0
		var seen []api.Spot
		for _, r := range p.needed() {
			s := api.Spot{Bin: r.Bin, Slot: r.Slot}
			if _, is := p.chunk(r); !is && !slices.Contains(seen, s) {
				n++
			}
			seen = append(seen, s)
		}
		return api.Answer{N: n}
	case api.Rebuild:
		p.rebuild()
		return api.Answer{}
	}
	return p.doBook(o)
}

func (p *plain) mount() {
	p.up, p.open = true, map[int]*open{}
	p.free, _ = extent.New(2+2*p.c.Area, p.c.Sectors)
	for _, b := range p.boxes {
		p.free.Claim(b.place.Run)
	}
	p.leaves = p.renewed()
	p.index, _ = ingest.New(p.c.Tune)
	p.rebuild()
}

func (p *plain) rot(n int, b []byte) api.Errno {
	if n < 0 || n >= p.c.Sectors {
		return api.ErrArg
	}
	if len(b) > 128 {
		return api.ErrLimit
	}
	for _, x := range p.boxes {
		if at := n - x.place.Run.At; at >= 0 && at < x.place.Run.N {
			copy(x.image[at*128:(at+1)*128], append(bytes.Clone(b), make([]byte, 128)...))
		}
	}
	return api.OK
}

// numbers is the containers, or those that the journal knows, by their numbers.
func (p *plain) numbers(known bool) []int {
	var l []int
	for n, b := range p.boxes {
		if b.known || !known {
			l = append(l, n)
		}
	}
	slices.Sort(l)
	return l
}

func (p *plain) places() []api.Place {
	var l []api.Place
	for _, n := range p.numbers(true) {
		l = append(l, p.boxes[n].place)
	}
	return l
}

func (p *plain) used() int {
	n := 0
	for _, b := range p.boxes {
		n += b.place.Run.N
	}
	return n
}

func (p *plain) entries() int {
	n := p.index.Entries()
	for _, x := range p.open {
		n += len(x.waits) + len(x.packed)
	}
	return n
}

func (p *plain) head(bin int) (api.Bin, bool) {
	b := p.boxes[bin]
	if b == nil {
		return api.Bin{}, false
	}
	said, e := pack.Parse(b.image)
	return said, e == api.OK && said.ID == bin
}

func (p *plain) sums(bin int) ([]api.Sum, bool) {
	said, is := p.head(bin)
	var l []api.Sum
	for _, s := range said.Slots {
		l = append(l, s.Sum)
	}
	return l, is
}

// lies is the bytes that lie in a slot.
func (p *plain) lies(bin, slot int) ([]byte, bool) {
	said, is := p.head(bin)
	if !is || slot >= len(said.Slots) {
		return nil, false
	}
	b, e := pack.Chunk(p.boxes[bin].image, said.Slots[slot])
	return b, e == api.OK
}

func (p *plain) chunk(r api.Ref) ([]byte, bool) {
	b, is := p.lies(r.Bin, r.Slot)
	return b, is && len(b) == r.Len && digest.Sum(b) == r.Sum
}

// needed is the refs of files, and of sessions that lie in containers.
func (p *plain) needed() []api.Ref {
	l := p.book.Live()
	for _, n := range slices.Sorted(maps.Keys(p.open)) {
		for _, r := range p.open[n].refs {
			if p.boxes[r.Bin] != nil {
				l = append(l, r)
			}
		}
	}
	return l
}

func (p *plain) rebuild() {
	p.index.Clear()
	for _, n := range p.numbers(true) {
		p.learn(n)
	}
}

func (p *plain) learn(n int) {
	if l, is := p.sums(n); is {
		p.index.Learn(n, l)
	}
}

func (p *plain) facts(b *names.Book, places []api.Place) []api.Fact {
	var l []api.Fact
	for _, x := range places {
		l = append(l, api.Fact{Kind: api.Laid, Place: x})
	}
	return append(l, b.Facts()...)
}

func takes(n int) int { return (n + 107) / 108 }

// renewed is how many sectors the records of all that is so take.
func (p *plain) renewed() int {
	n, last := 0, 0
	var l []api.Fact
	for _, f := range p.facts(p.book, p.places()) {
		b, e := record.Put(append(l, f))
		if e != api.OK || len(b) > 1<<14 {
			n += last
			l = nil
			b, _ = record.Put([]api.Fact{f})
		}
		l = append(l, f)
		last = takes(len(b))
	}
	return n + last
}

// most is what all that would be so takes at most.
func (p *plain) most(b *names.Book, places []api.Place) int {
	l := p.facts(b, places)
	for i, f := range l {
		if f.Kind == api.Ticked {
			l[i].Time = 1<<53 - 1
		}
	}
	for _, s := range b.Shots() {
		for _, h := range s.Held {
			l = append(l, api.Fact{Kind: api.Dropped, Name: h.Name, Gen: h.Gen})
		}
	}
	size := 0
	for _, f := range l {
		b, _ := record.Put([]api.Fact{f})
		size += len(b)
	}
	return size/108 + 1 + 2*(2+2*(size/16384+len(l)/300))
}

func (p *plain) transact(facts ...api.Fact) api.Errno {
	rec, e := record.Put(facts)
	if e != api.OK {
		return e
	}
	if len(rec) > 1<<14 {
		return api.ErrSpace
	}
	book, places, more := p.book.Fork(), p.places(), false
	for _, f := range facts {
		if e := book.Apply(f); e != api.OK {
			return e
		}
		more = more || f.Kind == api.Laid || f.Kind == api.Filed || f.Kind == api.Snapped || f.Kind == api.Moved
		switch f.Kind {
		case api.Laid:
			places = append(places, f.Place)
		case api.Freed:
			places = slices.DeleteFunc(places, func(x api.Place) bool { return x.Bin == f.Place.Bin })
		}
	}
	if more && p.most(book, places) > p.c.Area-1 {
		return api.ErrSpace
	}
	if takes(len(rec)) > p.c.Area-p.leaves {
		p.leaves = p.renewed()
	}
	if takes(len(rec)) > p.c.Area-p.leaves {
		return api.ErrSpace
	}
	p.leaves += takes(len(rec))
	p.book = book
	for n, b := range p.boxes {
		b.known = slices.ContainsFunc(places, func(x api.Place) bool { return x.Bin == n })
	}
	return api.OK
}

func (p *plain) drop(bin int) {
	p.free.Give(p.boxes[bin].place.Run)
	delete(p.boxes, bin)
}

// fits: do chunks fit into one container?
func (p *plain) fits(l [][]byte) bool {
	n := 128
	for _, b := range l {
		n += len(b) + 34
	}
	return len(l) <= 64 && n <= 128*p.c.Tune.Wide
}

// seal lays chunks down as a container.
func (p *plain) seal(number int, l [][]byte) api.Errno {
	k, _ := pack.New(number, p.c.Tune.Wide)
	for _, b := range l {
		k.Add(b)
	}
	image := k.Bytes()
	at, e := p.free.Take(len(image) / 128)
	if e != api.OK {
		return e
	}
	p.boxes[number] = &box{place: api.Place{Bin: number, Run: api.Run{At: at, N: len(image) / 128}}, image: image}
	return api.OK
}

func (p *plain) fresh() int {
	for n := 0; ; n++ {
		taken := p.boxes[n] != nil
		for _, x := range p.open {
			taken = taken || len(x.packed) > 0 && x.number == n
		}
		if !taken {
			return n
		}
	}
}

func (p *plain) doSession(o api.Op) api.Answer {
	if o.Do == api.Begin {
		if !record.Name(o.Name) {
			return fails(api.ErrArg)
		}
		if len(p.open) == 4 {
			return fails(api.ErrLimit)
		}
		p.began++
		g, _ := gear.New(p.c.Tune.Cut, gear.Table(uint64(p.c.Tune.Seed)))
		p.open[p.began] = &open{name: o.Name, cutter: g}
		return api.Answer{N: p.began}
	}
	x := p.open[o.N]
	if x == nil {
		return fails(api.ErrGone)
	}
	n, e := 0, api.OK
	switch o.Do {
	case api.Write:
		e = p.write(x, o.Bytes)
	case api.Commit:
		n, e = p.commit(x)
	}
	if e != api.OK || o.Do == api.Abort {
		for _, bin := range x.sealed {
			p.drop(bin)
		}
	}
	if e != api.OK || o.Do != api.Write {
		delete(p.open, o.N)
	}
	return api.Answer{Errno: e, N: n}
}

func (p *plain) write(x *open, b []byte) api.Errno {
	if x.size += len(b); x.size > 8192 {
		return api.ErrLimit
	}
	all := 0
	for _, f := range p.book.Files() {
		for _, v := range f.Versions {
			all += recipe.Size(v.Refs)
		}
	}
	for _, y := range p.open {
		all += y.size
	}
	if p.c.Quota > 0 && all > p.c.Quota {
		return api.ErrQuota
	}
	chunks, _ := x.cutter.Write(b)
	return p.wait(x, chunks)
}

func (p *plain) wait(x *open, chunks [][]byte) api.Errno {
	for _, b := range chunks {
		x.waits = append(x.waits, b)
		l := []api.Ref{}
		for _, w := range x.waits {
			l = append(l, api.Ref{Sum: digest.Sum(w)})
		}
		if segment.Ends(l, p.c.Tune.Seg) {
			if e := p.settle(x); e != api.OK {
				return e
			}
		}
	}
	return api.OK
}

func (p *plain) settle(x *open) api.Errno {
	var sums []api.Sum
	for _, b := range x.waits {
		sums = append(sums, digest.Sum(b))
	}
	for i, g := range p.index.Seek(sums, p.sums) {
		b := x.waits[i]
		r := api.Ref{Sum: sums[i], Len: len(b), Bin: g.Spot.Bin, Slot: g.Spot.Slot}
		there, is := p.lies(r.Bin, r.Slot)
		if !g.Is || !is || !p.boxes[r.Bin].known || !bytes.Equal(there, b) {
			slot := slices.IndexFunc(x.packed, func(y []byte) bool { return bytes.Equal(y, b) })
			if slot < 0 {
				if len(x.packed) > 0 && !p.fits(append(slices.Clone(x.packed), b)) {
					if e := p.sealOpen(x); e != api.OK {
						return e
					}
				}
				if len(x.packed) == 0 {
					x.number = p.fresh()
				}
				slot = len(x.packed)
				x.packed = append(x.packed, b)
			}
			r.Bin, r.Slot = x.number, slot
		}
		x.refs = append(x.refs, r)
	}
	x.waits = nil
	return api.OK
}

func (p *plain) sealOpen(x *open) api.Errno {
	if len(x.packed) == 0 {
		return api.OK
	}
	if e := p.seal(x.number, x.packed); e != api.OK {
		return e
	}
	x.sealed = append(x.sealed, x.number)
	x.packed = nil
	return api.OK
}

func (p *plain) commit(x *open) (int, api.Errno) {
	versions := 0
	for _, f := range p.book.Files() {
		if f.Name == x.name {
			versions = len(f.Versions)
		}
	}
	if versions == 0 && len(p.book.Files()) == 64 || versions == 32 {
		return 0, api.ErrLimit
	}
	if last, _ := x.cutter.End(); len(last) > 0 {
		if e := p.wait(x, [][]byte{last}); e != api.OK {
			return 0, e
		}
	}
	if e := p.settle(x); e != api.OK {
		return 0, e
	}
	if e := p.sealOpen(x); e != api.OK {
		return 0, e
	}
	var l []api.Fact
	for _, n := range x.sealed {
		l = append(l, api.Fact{Kind: api.Laid, Place: p.boxes[n].place})
	}
	f := api.Fact{Kind: api.Filed, Name: x.name, Gen: p.book.Next(x.name), Time: p.book.Now(), Refs: x.refs}
	if e := p.transact(append(l, f)...); e != api.OK {
		return 0, e
	}
	for _, n := range x.sealed {
		p.learn(n)
	}
	return f.Gen, api.OK
}

func (p *plain) doBook(o api.Op) api.Answer {
	switch o.Do {
	case api.Snap:
		return fails(p.transact(api.Fact{Kind: api.Snapped, Name: o.Shot, Time: p.book.Now(), Held: p.book.Newest()}))
	case api.Unsnap:
		return fails(p.transact(api.Fact{Kind: api.Unsnapped, Name: o.Shot}))
	case api.Tick:
		if o.N < 0 || o.N > 1<<53-1-p.book.Now() {
			return fails(api.ErrArg)
		}
		return fails(p.transact(api.Fact{Kind: api.Ticked, Time: p.book.Now() + o.N}))
	case api.Expire:
		l, _ := p.book.Expire(o.Keep)
		if e := p.transact(api.Fact{Kind: api.Expired, Keep: o.Keep}); e != api.OK {
			return fails(e)
		}
		return api.Answer{N: len(l)}
	case api.List:
		return api.Answer{Names: p.book.Newest()}
	}
	v, e := p.book.Get(o.Name, o.Gen)
	if o.Do == api.Shown {
		v, e = p.book.Via(o.Shot, o.Name)
	}
	if e != api.OK {
		return fails(e)
	}
	size := recipe.Size(v.Refs)
	switch o.Do {
	case api.Stat:
		return api.Answer{N: size}
	case api.Delete:
		return fails(p.transact(api.Fact{Kind: api.Dropped, Name: o.Name, Gen: v.Gen}))
	case api.Range:
		if o.From < 0 || o.From > size || o.Size < 0 {
			return fails(api.ErrArg)
		}
		return p.read(v.Refs, o.From, o.From+min(o.Size, size))
	}
	return p.read(v.Refs, 0, size)
}

// read is the bytes between two places, of those chunks that have one of them.
func (p *plain) read(l []api.Ref, from, to int) api.Answer {
	var told []byte
	at := 0
	for _, r := range l {
		if at < to && at+r.Len > from && from < to {
			b, is := p.chunk(r)
			if !is {
				return fails(api.ErrRot)
			}
			told = append(told, b[max(from-at, 0):min(to-at, r.Len)]...)
		}
		at += r.Len
	}
	return api.Answer{Bytes: told}
}

func (p *plain) clean(percent int) api.Answer {
	if percent < 0 || percent > 100 {
		return fails(api.ErrArg)
	}
	var fills []api.Fill
	for _, n := range p.numbers(true) {
		if said, is := p.head(n); is {
			f := api.Fill{Bin: n}
			for _, s := range said.Slots {
				f.Lens = append(f.Lens, s.Len)
			}
			fills = append(fills, f)
		}
	}
	var live []api.Spot
	for _, r := range p.needed() {
		live = append(live, api.Spot{Bin: r.Bin, Slot: r.Slot})
	}
	chosen, _ := clean.Choose(clean.Shares(fills, live), percent, len(fills))
	// Those whose live chunks can't all be told are left out.
	texts := map[int][][]byte{}
	var left []int
	for _, bin := range chosen {
		all := true
		for _, slot := range clean.Copies(bin, live) {
			b, is := p.lies(bin, slot)
			all = all && is
			texts[bin] = append(texts[bin], b)
		}
		if all {
			left = append(left, bin)
		}
	}
	gone := 0
	for len(left) > 0 {
		n, packed := 0, [][]byte{}
		for n < len(left) && n < 200 && p.fits(append(slices.Clone(packed), texts[left[n]]...)) {
			packed = append(packed, texts[left[n]]...)
			n++
		}
		if e := p.forward(left[:n], packed, live); e != api.OK {
			return fails(e)
		}
		gone += n
		left = left[n:]
	}
	return api.Answer{N: gone}
}

func (p *plain) forward(old []int, packed [][]byte, live []api.Spot) api.Errno {
	var l []api.Fact
	var moves []api.Move
	number := p.fresh()
	for _, bin := range old {
		for _, slot := range clean.Copies(bin, live) {
			moves = append(moves, api.Move{From: api.Spot{Bin: bin, Slot: slot}, To: api.Spot{Bin: number, Slot: len(moves)}})
		}
	}
	if len(moves) > 0 {
		if e := p.seal(number, packed); e != api.OK {
			return e
		}
		l = append(l, api.Fact{Kind: api.Laid, Place: p.boxes[number].place}, api.Fact{Kind: api.Moved, Moves: moves})
	}
	for _, bin := range old {
		l = append(l, api.Fact{Kind: api.Freed, Place: api.Place{Bin: bin}})
	}
	if e := p.transact(l...); e != api.OK {
		if len(moves) > 0 {
			p.drop(number)
		}
		return e
	}
	for _, bin := range old {
		p.drop(bin)
		p.index.Forget(bin)
	}
	for _, x := range p.open {
		x.refs, _ = recipe.Move(x.refs, moves)
	}
	if len(moves) > 0 {
		p.learn(number)
	}
	return api.OK
}
