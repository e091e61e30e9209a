package twin

import (
	"maps"
	"slices"

	"aumbry/api"
	"aumbry/vault"
	"aumbry/wire"
)

// Sink has an appliance come to have a source's files.
type Sink struct {
	home   home
	done   map[string]int // generations, by their files' names
	toCome []api.Held
	work   *work // what is under way; nil: nothing is
	pool   *pool
}

// Open is a sink with nothing done.
func Open(v *vault.Vault, room int) (*Sink, api.Errno) {
	if v == nil {
		return nil, api.ErrNil
	}
	if room < 1 || room > api.MaxRefs {
		return nil, api.ErrArg
	}
	return &Sink{home: home{v}, done: map[string]int{}, pool: newPool(room)}, api.OK
}

// Done is what is done.
func (k *Sink) Done() []api.Held {
	if k == nil {
		return nil
	}
	var l []api.Held
	for _, name := range slices.Sorted(maps.Keys(k.done)) {
		l = append(l, api.Held{Name: name, Gen: k.done[name]})
	}
	return l
}

// Kept is how many chunks are kept.
func (k *Sink) Kept() int {
	if !k.made() {
		return 0
	}
	return k.pool.size()
}

// Busy: is one under way, or to come?
func (k *Sink) Busy() bool {
	return k != nil && (k.work != nil || len(k.toCome) > 0)
}

// Next is what a sink asks.
func (k *Sink) Next() []byte {
	if !k.made() {
		return nil
	}
	if k.work == nil && len(k.toCome) > 0 {
		k.work = &work{Held: k.toCome[0]}
		k.toCome = k.toCome[1:]
	}
	asked := api.Note{Say: api.AskList}
	if k.work != nil {
		asked = k.work.asks()
	}
	// Whatever is asked for was in notes that could be taken: there is no error.
	b, _ := wire.Put(asked)
	return b
}

// Hear takes a note.
func (k *Sink) Hear(b []byte) api.Errno {
	if !k.made() {
		return api.ErrNil
	}
	told, e := wire.Take(b)
	if e != api.OK {
		return e
	}
	switch told.Say {
	case api.TellList:
		k.hearList(told.Held)
	case api.TellFile, api.NoFile, api.TellChunk:
		if k.work != nil && k.work.Held == heldOf(told) {
			k.hearOfWork(told)
		}
	default:
		return api.ErrArg
	}
	return k.end()
}

// made: was it made by Open? One that was not has no appliance.
func (k *Sink) made() bool { return k != nil && k.home.Vault != nil }

// hearList hears what there is. A list that comes while there is something to do is an old one, or will come again.
func (k *Sink) hearList(l []api.Held) {
	if !k.Busy() {
		k.toCome = slices.DeleteFunc(l, func(x api.Held) bool { return k.done[x.Name] == x.Gen })
	}
}

// hearOfWork hears what is told of what is under way.
func (k *Sink) hearOfWork(told api.Note) {
	switch told.Say {
	case api.NoFile:
		k.work = nil
	case api.TellFile:
		if !k.work.known {
			k.work.know(told.Parts, k.pool.find)
		}
	case api.TellChunk:
		if k.work.lacks(told.I) {
			k.hearChunk(told.I, told.Bytes)
		}
	}
}

// hearChunk hears the chunk of a part that is not there. If it is another one, the file at the source is not the one whose parts are known.
func (k *Sink) hearChunk(i int, b []byte) {
	p := partOf(b)
	if p != k.work.parts[i] {
		k.work.forget()
		return
	}
	k.pool.keep(p, b)
	k.work.fill(p, b)
}

// end files what is under way, if all of it is there.
func (k *Sink) end() api.Errno {
	x := k.work
	if x == nil || !x.whole() {
		return api.OK
	}
	k.work = nil
	if e := k.home.file(x.Name, x.bytes()); e != api.OK {
		return e
	}
	k.done[x.Name] = x.Gen
	return api.OK
}

// heldOf is the generation that a note names.
func heldOf(n api.Note) api.Held { return api.Held{Name: n.Name, Gen: n.Gen} }
