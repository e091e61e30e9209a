package script

import (
	"strconv"
	"strings"

	"aumbry/api"
)

// verbs is with which word a line begins.
var verbs = [...]string{
	api.Begin: "begin", api.Write: "write", api.Commit: "commit", api.Abort: "abort", api.Read: "read", api.Range: "range",
	api.Shown: "shown", api.Stat: "stat", api.List: "list", api.Delete: "delete", api.Snap: "snap", api.Unsnap: "unsnap",
	api.Tick: "tick", api.Expire: "expire", api.Clean: "clean", api.Scrub: "scrub", api.Rebuild: "rebuild", api.Trip: "trip",
	api.Fall: "fall", api.Mount: "mount", api.Rot: "rot",
}

// part is what stands behind the first word: a word, or bytes.
type part int

const (
	number part = iota
	gen
	from
	size
	last
	young
	step
	count
	at
	name
	shot
	data
	keep
	torn
)

// partsOf is what stands, in order, behind the first word of a line.
func partsOf(d api.Do) []part {
	switch d {
	case api.Begin:
		return []part{name}
	case api.Write, api.Rot:
		return []part{number, data}
	case api.Commit, api.Abort, api.Tick, api.Clean, api.Trip:
		return []part{number}
	case api.Read, api.Stat, api.Delete:
		return []part{name, gen}
	case api.Range:
		return []part{name, gen, from, size}
	case api.Shown:
		return []part{shot, name}
	case api.Snap, api.Unsnap:
		return []part{shot}
	case api.Expire:
		return []part{last, young, step, count}
	case api.Fall:
		return []part{keep, torn, at}
	}
	return nil
}

// number is where an operation has the number of a part; nil, if the part is none.
func (p part) number(o *api.Op) *int {
	switch p {
	case number:
		return &o.N
	case gen:
		return &o.Gen
	case from:
		return &o.From
	case size:
		return &o.Size
	case last:
		return &o.Keep.Last
	case young:
		return &o.Keep.Young
	case step:
		return &o.Keep.Step
	case count:
		return &o.Keep.Count
	case at:
		return &o.Crash.At
	}
	return nil
}

// take takes a part from the left of what is left.
func (p part) take(w *words, o *api.Op) {
	switch p {
	case name:
		o.Name = w.name()
	case shot:
		o.Shot = w.name()
	case data:
		o.Bytes = w.bytes()
	case keep:
		o.Crash.Keep = w.keep()
	case torn:
		o.Crash.Torn = w.torn()
	default:
		*p.number(o) = w.number()
	}
}

// lay is a part as it stands in a line.
func (p part) lay(o api.Op) string {
	switch p {
	case name:
		return o.Name
	case shot:
		return o.Shot
	case data:
		return layBytes(o.Bytes)
	case keep:
		return layKeep(o.Crash.Keep)
	case torn:
		return layTorn(o.Crash.Torn)
	}
	return strconv.Itoa(*p.number(&o))
}

// taken is the operation of a line; a fault goes up.
func taken(line string) api.Op {
	w := words{left: line}
	o := api.Op{Do: doOf(w.word())}
	stopUnless(o.Do != api.NoDo)
	for _, p := range partsOf(o.Do) {
		p.take(&w, &o)
	}
	stopUnless(w.over)
	return o
}

// doOf is what a first word says; none, if it says nothing, as an empty one.
func doOf(word string) api.Do {
	for d, verb := range verbs {
		if verb == word {
			return api.Do(d)
		}
	}
	return api.NoDo
}

// laid is what would be an operation's line, if it has one.
func laid(o api.Op) string {
	if o.Do <= api.NoDo || int(o.Do) >= len(verbs) {
		return ""
	}
	line := []string{verbs[o.Do]}
	for _, p := range partsOf(o.Do) {
		line = append(line, p.lay(o))
	}
	return strings.Join(line, blank)
}
