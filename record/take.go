package record

import (
	"aumbry/api"
	"aumbry/octet"
)

// Take is the facts of bytes.
func Take(b []byte) ([]api.Fact, api.Errno) {
	t := taker{bytes: b}
	var l []api.Fact
	e := caught(func() { l = t.facts() })
	return l, e
}

// fault is the error at which taking stops: it goes up by a panic, past all that is under way.
type fault api.Errno

// caught does a step, and is the fault that came up in it.
func caught(step func()) (e api.Errno) {
	defer func() {
		if f, is := recover().(fault); is {
			e = api.Errno(f)
		}
	}()
	step()
	return api.OK
}

// stopBy stops taking by an error; OK is none.
func stopBy(e api.Errno) {
	if e != api.OK {
		panic(fault(e))
	}
}

// taker takes facts from the left.
type taker struct {
	bytes []byte
	at    int
}

// facts is the facts of all bytes.
func (t *taker) facts() []api.Fact {
	n := t.count(api.MaxFacts)
	if n == 0 {
		stopBy(api.ErrArg)
	}
	var l []api.Fact
	for range n {
		l = append(l, t.fact())
	}
	if t.at < len(t.bytes) {
		stopBy(api.ErrForm)
	}
	return l
}

func (t *taker) fact() api.Fact {
	f := api.Fact{Kind: api.Kind(t.num())}
	if !isKind(f.Kind) {
		stopBy(api.ErrForm)
	}
	take := wayOf(f.Kind).take
	take(t, &f)
	stopBy(Check(f))
	return f
}

func (t *taker) num() int {
	n, next, e := octet.TakeNum(t.bytes, t.at)
	stopBy(e)
	t.at = next
	return n
}

// count is how many of something there are: held against the limit ahead of what it counts, as bytes may claim as many as they like.
func (t *taker) count(most int) int {
	n := t.num()
	if n > most {
		stopBy(api.ErrLimit)
	}
	return n
}

func (t *taker) name() string {
	p, next, e := octet.TakeText(t.bytes, t.at, api.MaxName)
	stopBy(e)
	t.at = next
	return string(p)
}

func (t *taker) sum() api.Sum {
	var s api.Sum
	if len(t.bytes)-t.at < len(s) {
		stopBy(api.ErrShort)
	}
	t.at += copy(s[:], t.bytes[t.at:])
	return s
}

func (t *taker) laid(f *api.Fact) {
	f.Place = api.Place{Bin: t.num(), Run: api.Run{At: t.num(), N: t.num()}}
}

func (t *taker) freed(f *api.Fact) { f.Place.Bin = t.num() }

func (t *taker) filed(f *api.Fact) {
	f.Name = t.name()
	f.Gen = t.num()
	f.Time = t.num()
	for range t.count(api.MaxRefs) {
		f.Refs = append(f.Refs, api.Ref{Sum: t.sum(), Len: t.num(), Bin: t.num(), Slot: t.num()})
	}
}

func (t *taker) dropped(f *api.Fact) {
	f.Name = t.name()
	f.Gen = t.num()
}

func (t *taker) snapped(f *api.Fact) {
	f.Name = t.name()
	f.Time = t.num()
	for range t.count(api.MaxHeld) {
		f.Held = append(f.Held, api.Held{Name: t.name(), Gen: t.num()})
	}
}

func (t *taker) unsnapped(f *api.Fact) { f.Name = t.name() }

func (t *taker) moved(f *api.Fact) {
	for range t.count(api.MaxMoves) {
		f.Moves = append(f.Moves, api.Move{From: t.spot(), To: t.spot()})
	}
}

func (t *taker) spot() api.Spot { return api.Spot{Bin: t.num(), Slot: t.num()} }

func (t *taker) ticked(f *api.Fact) { f.Time = t.num() }

func (t *taker) expired(f *api.Fact) {
	f.Keep = api.Keep{Last: t.num(), Young: t.num(), Step: t.num(), Count: t.num()}
}
