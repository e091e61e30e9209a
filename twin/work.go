package twin

import (
	"bytes"
	"slices"

	"aumbry/api"
)

// work is a generation that is under way.
type work struct {
	api.Held
	known  bool // are its parts? A file may have none.
	parts  []api.Part
	chunks [][]byte // of each part; nil: it is not there
}

// know has a work that does not know its parts know them; those that are found are there.
func (w *work) know(parts []api.Part, find func(api.Part) []byte) {
	w.known, w.parts = true, parts
	for _, p := range parts {
		w.chunks = append(w.chunks, find(p))
	}
}

// forget has a work not know its parts any more.
func (w *work) forget() { *w = work{Held: w.Held} }

// first is the first part that is not there; below 0, if there is none.
func (w *work) first() int {
	return slices.IndexFunc(w.chunks, func(c []byte) bool { return c == nil })
}

// whole: is all of it there?
func (w *work) whole() bool { return w.known && w.first() < 0 }

// lacks: is there such a part, and is it not there?
func (w *work) lacks(i int) bool { return i < len(w.chunks) && w.chunks[i] == nil }

// fill has all parts that are alike be there.
func (w *work) fill(p api.Part, chunk []byte) {
	for i, other := range w.parts {
		if other == p {
			w.chunks[i] = chunk
		}
	}
}

// asks is what is asked for next, of a work that is not whole.
func (w *work) asks() api.Note {
	n := api.Note{Say: api.AskFile, Name: w.Name, Gen: w.Gen}
	if w.known {
		n.Say, n.I = api.AskChunk, w.first()
	}
	return n
}

// bytes is all of its chunks, one behind the other.
func (w *work) bytes() []byte { return bytes.Join(w.chunks, nil) }
