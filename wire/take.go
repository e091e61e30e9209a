package wire

import (
	"aumbry/api"
	"aumbry/octet"
)

// Take is the note of bytes.
func Take(b []byte) (api.Note, api.Errno) {
	t := taker{bytes: b}
	n := t.note()
	t.fail(Check(n))
	if t.at < len(b) {
		t.fail(api.ErrForm)
	}
	if t.fault != api.OK {
		return api.Note{}, t.fault
	}
	return n, api.OK
}

// taker takes parts of a note from the left. It keeps its first fault; behind that nothing more is taken.
type taker struct {
	bytes []byte
	at    int
	fault api.Errno
}

// fail has a taker have a fault (OK is none), if it has none yet.
func (t *taker) fail(e api.Errno) {
	if t.fault == api.OK {
		t.fault = e
	}
}

func (t *taker) note() api.Note {
	n := api.Note{Say: api.Say(t.num())}
	has, is := namedBy(n.Say)
	if !is {
		t.fail(api.ErrForm)
	}
	if has.file {
		n.Name, n.Gen = t.name(), t.num()
	}
	if has.chunk {
		n.I = t.num()
	}
	if has.held {
		n.Held = takeList(t, api.MaxHeld, func() api.Held { return api.Held{Name: t.name(), Gen: t.num()} })
	}
	if has.parts {
		n.Parts = takeList(t, api.MaxRefs, func() api.Part { return api.Part{Sum: t.sum(), Len: t.num()} })
	}
	if has.bytes {
		n.Bytes = t.text(api.MaxChunk)
	}
	return n
}

func (t *taker) num() int {
	if t.fault != api.OK {
		return 0
	}
	n, next, e := octet.TakeNum(t.bytes, t.at)
	t.step(next, e)
	return n
}

func (t *taker) text(most int) []byte {
	if t.fault != api.OK {
		return nil
	}
	p, next, e := octet.TakeText(t.bytes, t.at, most)
	t.step(next, e)
	return p
}

// step goes behind what was taken, or stays with the fault.
func (t *taker) step(next int, e api.Errno) {
	if e != api.OK {
		t.fail(e)
		return
	}
	t.at = next
}

func (t *taker) name() string { return string(t.text(api.MaxName)) }

func (t *taker) sum() api.Sum {
	var s api.Sum
	if len(t.bytes)-t.at < len(s) {
		t.fail(api.ErrShort)
		return s
	}
	t.at += copy(s[:], t.bytes[t.at:])
	return s
}

// takeList is as many elements as the bytes say there are: held against the limit ahead of them, as bytes may claim as many as they like.
func takeList[T any](t *taker, most int, take func() T) []T {
	n := t.num()
	if n > most {
		t.fail(api.ErrLimit)
	}
	var l []T
	for len(l) < n && t.fault == api.OK {
		l = append(l, take())
	}
	return l
}
