package wire_test

import (
	"bytes"
	"math"
	"math/rand"
	"strings"
	"testing"

	"aumbry/api"
	"aumbry/wire"
)

// wrongNames are names that are not right; the last two are longer than may be.
var wrongNames = []string{"", " ", "a b", "a ", "\x7f", "a\x00", "\x80", "é", strings.Repeat("n", 33), strings.Repeat("n", 5000)}

var rightNames = []string{"a", "!", "~", "db/monday", strings.Repeat("n", 32)}

var wrongGens = []int{0, -1, math.MinInt, most + 1, math.MaxInt}

// bare is a note without lists.
func bare(s api.Say, name string, gen, i int) api.Note {
	return api.Note{Say: s, Name: name, Gen: gen, I: i}
}

func list(l ...api.Held) api.Note { return api.Note{Say: api.TellList, Held: l} }

func file(l ...api.Part) api.Note {
	return api.Note{Say: api.TellFile, Name: "a", Gen: 1, Parts: l}
}

func chunk(b []byte) api.Note {
	return api.Note{Say: api.TellChunk, Name: "a", Gen: 1, Bytes: b}
}

// P27.1: what a note says.
func TestCheckSay(t *testing.T) {
	for _, s := range []api.Say{0, -1, -7, 8, 9, 256, 257, math.MinInt, math.MaxInt} {
		wantWrong(t, api.Note{Say: s}, api.ErrForm)
		wantWrong(t, bare(s, "a", 1, 0), api.ErrForm)
		wantWrong(t, api.Note{Say: s, Held: many(65, api.Held{})}, api.ErrForm)
	}
	for _, n := range bySay() {
		wantNote(t, n, plainPut(n))
	}
}

// others sets each part of a note, one by one, and tells what is set.
func others(n api.Note) map[string]api.Note {
	l := map[string]api.Note{}
	set := func(name string, change func(*api.Note)) {
		m := n
		change(&m)
		l[name] = m
	}
	set("Name", func(m *api.Note) { m.Name = "a" })
	set("Gen", func(m *api.Note) { m.Gen = -1 })
	set("I", func(m *api.Note) { m.I = -1 })
	set("Held", func(m *api.Note) { m.Held = make([]api.Held, 1) })
	set("Parts", func(m *api.Note) { m.Parts = make([]api.Part, 1) })
	set("Bytes", func(m *api.Note) { m.Bytes = make([]byte, 1) })
	return l
}

// P27.1: what a note does not name is zero; a list is, if it is empty.
func TestCheckBeside(t *testing.T) {
	for _, n := range bySay() {
		for name, other := range others(n) {
			if !strings.Contains(named[n.Say], name) {
				wantWrong(t, other, api.ErrForm)
			}
		}
		want := plainPut(n)
		if n.Held == nil {
			n.Held = []api.Held{}
		}
		if n.Parts == nil {
			n.Parts = []api.Part{}
		}
		if n.Bytes == nil {
			n.Bytes = []byte{}
		}
		wantNote(t, n, want)
	}
}

// P27.1: the file that is named.
func TestCheckFile(t *testing.T) {
	for _, s := range []api.Say{api.AskFile, api.TellFile, api.NoFile, api.AskChunk, api.TellChunk} {
		note := func(name string, gen int) api.Note {
			n := bare(s, name, gen, 0)
			if s == api.TellChunk {
				n.Bytes = []byte{0}
			}
			return n
		}
		for _, name := range rightNames {
			for _, gen := range []int{1, 2, 127, 128, most - 1, most} {
				n := note(name, gen)
				wantNote(t, n, plainPut(n))
			}
		}
		for _, name := range wrongNames {
			wantWrong(t, note(name, 1), api.ErrArg)
		}
		for _, gen := range wrongGens {
			wantWrong(t, note("a", gen), api.ErrArg)
		}
	}
}

// P27.1: which chunk.
func TestCheckChunk(t *testing.T) {
	for _, i := range []int{0, 1, 127, 128, 254, 255} {
		n := bare(api.AskChunk, "a", 1, i)
		wantNote(t, n, lay(6, "a", 1, i))
		n.Say, n.Bytes = api.TellChunk, []byte("b")
		wantNote(t, n, lay(7, "a", 1, i, "b"))
	}
	for _, i := range []int{-1, 256, 257, most, math.MinInt, math.MaxInt} {
		n := bare(api.AskChunk, "a", 1, i)
		wantWrong(t, n, api.ErrArg)
		n.Say, n.Bytes = api.TellChunk, []byte("b")
		wantWrong(t, n, api.ErrArg)
	}
}

// P27.1: lists, wherever in them something is wrong.
func TestCheckLists(t *testing.T) {
	held, part := api.Held{Name: "a", Gen: 1}, api.Part{Len: 1}
	for _, name := range wrongNames {
		bad := api.Held{Name: name, Gen: 1}
		wantWrong(t, list(bad), api.ErrArg)
		wantWrong(t, list(held, bad), api.ErrArg)
		wantWrong(t, list(bad, held), api.ErrArg)
		wantWrong(t, list(append(many(63, held), bad)...), api.ErrArg)
	}
	for _, gen := range wrongGens {
		wantWrong(t, list(held, api.Held{Name: "a", Gen: gen}, held), api.ErrArg)
	}
	for _, n := range []int{0, -1, 513, most, math.MinInt, math.MaxInt} {
		bad := api.Part{Len: n}
		wantWrong(t, file(bad), api.ErrArg)
		wantWrong(t, file(part, bad), api.ErrArg)
		wantWrong(t, file(bad, part), api.ErrArg)
		wantWrong(t, file(append(many(255, part), bad)...), api.ErrArg)
	}
	for _, name := range rightNames {
		for _, gen := range []int{1, most} {
			n := list(held, api.Held{Name: name, Gen: gen}, held)
			wantNote(t, n, plainPut(n))
		}
	}
	for _, n := range []int{1, 2, 127, 128, 511, 512} {
		n := file(part, api.Part{Sum: api.Sum{1, 31: 7}, Len: n}, part)
		wantNote(t, n, plainPut(n))
	}
	wantWrong(t, chunk(nil), api.ErrArg)
	wantWrong(t, chunk([]byte{}), api.ErrArg)
}

// P27.1: as much as may be, and one more.
func TestCheckLimits(t *testing.T) {
	held, part := api.Held{Name: "a", Gen: 1}, api.Part{Len: 1}
	for n, want := range map[int]api.Errno{0: api.OK, 1: api.OK, 63: api.OK, 64: api.OK, 65: api.ErrLimit, 5000: api.ErrLimit} {
		wantAs(t, list(many(n, held)...), want)
	}
	for n, want := range map[int]api.Errno{0: api.OK, 1: api.OK, 127: api.OK, 128: api.OK, 255: api.OK, 256: api.OK, 257: api.ErrLimit, 5000: api.ErrLimit} {
		wantAs(t, file(many(n, part)...), want)
	}
	for n, want := range map[int]api.Errno{1: api.OK, 127: api.OK, 128: api.OK, 511: api.OK, 512: api.OK, 513: api.ErrLimit, 1 << 20: api.ErrLimit} {
		wantAs(t, chunk(many(n, byte(n))), want)
	}
}

func wantAs(t *testing.T, n api.Note, want api.Errno) {
	t.Helper()
	if want == api.OK {
		wantNote(t, n, plainPut(n))
		return
	}
	wantWrong(t, n, want)
}

// P27.1, P2: of several errors the one that is named first.
func TestCheckFirst(t *testing.T) {
	for _, n := range []api.Note{
		list(make([]api.Held, 65)...), file(make([]api.Part, 257)...), chunk(make([]byte, 513)),
		{Say: api.TellFile, Parts: make([]api.Part, 257)}, {Say: api.TellChunk, I: 256, Bytes: make([]byte, 513)},
	} {
		wantWrong(t, n, api.ErrLimit)
		for name, other := range others(n) {
			if !strings.Contains(named[n.Say], name) {
				wantWrong(t, other, api.ErrForm)
			}
		}
	}
	wantWrong(t, api.Note{Say: api.AskFile, I: 1}, api.ErrForm)
	wantWrong(t, api.Note{Say: api.AskChunk, Bytes: []byte{1}}, api.ErrForm)
	wantWrong(t, api.Note{Say: api.AskList, Parts: make([]api.Part, 300)}, api.ErrForm)
}

// spoil makes one part of a note any other.
func spoil(r *rand.Rand, n *api.Note) {
	numbers := []*int{&n.Gen, &n.I}
	names := []*string{&n.Name}
	for i := range n.Held {
		numbers = append(numbers, &n.Held[i].Gen)
		names = append(names, &n.Held[i].Name)
	}
	for i := range n.Parts {
		numbers = append(numbers, &n.Parts[i].Len)
	}
	edges := []int{0, 1, -1, 255, 256, 511, 512, 513, most, most + 1, math.MinInt, math.MaxInt}
	switch r.Intn(8) {
	case 0:
		n.Say = api.Say(r.Intn(10) - 1)
	case 1:
		n.Held = append(n.Held, many(62+r.Intn(5), api.Held{Name: "h", Gen: 1})...)
	case 2:
		n.Parts = append(n.Parts, many(254+r.Intn(5), api.Part{Len: 1})...)
	case 3:
		n.Bytes = append(n.Bytes, make([]byte, 510+r.Intn(5))...)
	case 4:
		n.Bytes = nil
	case 5:
		*names[r.Intn(len(names))] = append(wrongNames, rightNames...)[r.Intn(len(wrongNames)+len(rightNames))]
	default:
		*numbers[r.Intn(len(numbers))] = edges[r.Intn(len(edges))]
	}
}

// P27.1, P27.2: notes with wrong parts of all kinds, against the chapter's words.
func TestCheckAny(t *testing.T) {
	r := rand.New(rand.NewSource(1))
	met := map[api.Errno]int{}
	for range 60000 {
		n := someNote(r, 3)
		for range r.Intn(3) {
			spoil(r, &n)
		}
		want := plainCheck(n)
		wantAs(t, n, want)
		met[want]++
	}
	for _, e := range []api.Errno{api.OK, api.ErrForm, api.ErrArg, api.ErrLimit} {
		if met[e] < 1000 {
			t.Error("met", met)
		}
	}
}

// P3: what is handed in stays, and is not kept; what is answered is new memory.
func TestMemory(t *testing.T) {
	r := rand.New(rand.NewSource(2))
	for range 300 {
		n := someNote(r, 9)
		want := plainPut(n)
		was := clone(n)
		long := clone(n)
		long.Held = append(long.Held, api.Held{Name: "spare", Gen: 5})
		long.Parts = append(long.Parts, api.Part{Len: 5})
		long.Bytes = append(long.Bytes, 77)
		in := long
		in.Held, in.Parts, in.Bytes = long.Held[:len(n.Held)], long.Parts[:len(n.Parts)], long.Bytes[:len(n.Bytes)]
		wire.Check(in)
		b, _ := wire.Put(in)
		again, _ := wire.Put(in)
		spoilBytes(again)
		if !sameNote(in, was) || in.Held[:len(n.Held)+1][len(n.Held)].Gen != 5 || in.Parts[:len(n.Parts)+1][len(n.Parts)].Len != 5 || in.Bytes[:len(n.Bytes)+1][len(n.Bytes)] != 77 {
			t.Fatal("what was handed in is changed")
		}
		clear(in.Held)
		clear(in.Parts)
		clear(in.Bytes)
		if !bytes.Equal(b, want) {
			t.Fatal("bytes lie in what was handed in, or answered")
		}
		roomy := append(bytes.Clone(want), 77, 77)
		got, _ := wire.Take(roomy[:len(want)])
		other, _ := wire.Take(roomy[:len(want)])
		clear(other.Held[:cap(other.Held)])
		clear(other.Parts[:cap(other.Parts)])
		spoilBytes(other.Bytes)
		if !bytes.Equal(roomy, append(bytes.Clone(want), 77, 77)) {
			t.Fatal("what was handed in is changed")
		}
		spoilBytes(roomy)
		if !sameNote(got, was) {
			t.Fatal("a note lies in what was handed in, or answered")
		}
	}
}

func clone(n api.Note) api.Note {
	n.Held = append([]api.Held(nil), n.Held...)
	n.Parts = append([]api.Part(nil), n.Parts...)
	n.Bytes = append([]byte(nil), n.Bytes...)
	return n
}

// spoilBytes changes all bytes, and those in the spare room behind them.
func spoilBytes(b []byte) {
	b = b[:cap(b)]
	for i := range b {
		b[i] ^= 0xff
	}
}
