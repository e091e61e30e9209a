package twin_test

import (
	"bytes"
	"math/rand"
	"slices"
	"strings"
	"testing"

	"aumbry/api"
	"aumbry/twin"
	"aumbry/vault"
	"aumbry/wire"
)

// life is a sink and a plain one, each with an appliance of its own, that hear and do the same.
type life struct {
	t    *testing.T
	r    *rand.Rand
	v    *vault.Vault
	k    *twin.Sink
	p    *plainSink
	met  map[string]int
	hist []api.Note // what was told
}

func newLife(t *testing.T, r *rand.Rand, met map[string]int) *life {
	c := layout()
	c.Area = 20 + r.Intn(80)
	c.Sectors = 2 + 2*c.Area + 16 + r.Intn(60)
	c.Quota = r.Intn(2) * (400 + r.Intn(3000))
	room := 1 + r.Intn(8)
	v := appliance(t, c)
	return &life{t: t, r: r, v: v, k: sink(t, v, room), p: newPlainSink(appliance(t, c), room), met: met}
}

// word is one of few chunks, most of which come again.
func (l *life) word() string {
	n := l.r.Intn(12)
	return strings.Repeat(string(rune('a'+n)), 1+n*n)
}

func (l *life) held() api.Held {
	return held(string(rune('a'+l.r.Intn(4))), 1+l.r.Intn(3))
}

// file tells the parts of some file; some lengths are not those of any bytes.
func (l *life) file(h api.Held) api.Note {
	n := tellFile(h)
	for range l.r.Intn(7) {
		p := partOf([]byte(l.word()))
		if l.r.Intn(30) == 0 {
			p.Len = 1 + l.r.Intn(512)
		}
		n.Parts = append(n.Parts, p)
	}
	return n
}

// fits is the chunk of a part that is under way, if there is one.
func (l *life) fits() api.Note {
	w := l.p.way
	if w == nil || len(w.parts) == 0 {
		return l.file(l.held())
	}
	i := l.r.Intn(len(w.parts))
	for n := range 12 {
		word := strings.Repeat(string(rune('a'+n)), 1+n*n)
		if partOf([]byte(word)).Sum == w.parts[i].Sum {
			return tellChunk(w.held, i, word)
		}
	}
	panic("no word")
}

// note is what may be told: mostly something that is asked for.
func (l *life) note() api.Note {
	h := l.held()
	if l.p.way != nil && l.r.Intn(6) > 0 {
		h = l.p.way.held
	}
	switch n := l.r.Intn(40); {
	case n < 8:
		var list []api.Held
		for range l.r.Intn(5) {
			list = append(list, l.held())
		}
		return tellList(list...)
	case n < 16:
		return l.file(h)
	case n < 17:
		return noFile(h)
	case n < 20:
		return tellChunk(h, l.r.Intn(9), l.word())
	case n < 24 && len(l.hist) > 0:
		return l.hist[l.r.Intn(len(l.hist))]
	case n < 25:
		return []api.Note{askList, askFile(h), askChunk(h, 3)}[l.r.Intn(3)]
	}
	return l.fits()
}

// hear has both hear the same.
func (l *life) hear() {
	n := l.note()
	l.hist = append(l.hist, n)
	want := l.p.hear(n)
	if e := l.k.Hear(bytesOf(l.t, n)); e != want {
		l.t.Fatalf("Hear of %+v: %d, want %d", n, e, want)
	}
	if want != api.OK {
		l.met["refused"]++
	}
}

// do has both appliances do the same.
func (l *life) do(o api.Op) {
	a, b := l.v.Do(o), l.p.v.Do(o)
	if a.Errno != b.Errno || a.N != b.N || !bytes.Equal(a.Bytes, b.Bytes) || !slices.Equal(a.Names, b.Names) {
		l.t.Fatalf("%+v: %+v, %+v", o, a, b)
	}
}

// change does something to both appliances from without.
func (l *life) change() {
	h := l.held()
	switch l.r.Intn(9) {
	case 0, 1, 2:
		l.do(api.Op{Do: api.Delete, Name: h.Name})
	case 3:
		l.do(api.Op{Do: api.Clean, N: 100})
	case 4:
		l.do(api.Op{Do: api.Begin, Name: h.Name})
	case 5:
		l.do(api.Op{Do: api.Abort, N: 1 + l.r.Intn(40)})
	case 6:
		l.do(api.Op{Do: api.Trip, N: l.r.Intn(20)})
	default:
		l.do(api.Op{Do: api.Fall, Crash: api.Crash{Torn: -1}})
		if l.r.Intn(3) > 0 {
			l.do(api.Op{Do: api.Mount})
		}
	}
}

// same: both tell the same of themselves.
func (l *life) same() {
	l.t.Helper()
	if got, want := l.k.Done(), l.p.told(); !slices.Equal(got, want) {
		l.t.Fatalf("Done: %v, want %v", got, want)
	}
	if got, want := l.k.Kept(), len(l.p.kept); got != want || got > l.p.room {
		l.t.Fatalf("Kept: %d, want %d of %d", got, want, l.p.room)
	}
	if got, want := l.k.Busy(), l.p.way != nil || len(l.p.list) > 0; got != want {
		l.t.Fatalf("Busy: %t", got)
	}
}

func (l *life) next() {
	want := l.p.next()
	l.met[map[api.Say]string{api.AskList: "list", api.AskFile: "file", api.AskChunk: "chunk"}[want.Say]]++
	asks(l.t, l.k, want)
}

// P28.2, P28.3, P28.4: sinks that hear all kinds of notes, against the chapter's words.
func TestSinkLife(t *testing.T) {
	met := map[string]int{}
	for seed := range 150 {
		l := newLife(t, rand.New(rand.NewSource(int64(seed))), met)
		for range 300 {
			switch n := l.r.Intn(40); {
			case n < 26:
				l.hear()
			case n < 39:
				l.next()
			default:
				l.change()
			}
			l.same()
		}
		met["done"] += len(l.k.Done())
		l.do(api.Op{Do: api.Fall, Crash: api.Crash{Torn: -1}})
		l.do(api.Op{Do: api.Mount})
		for _, h := range l.v.Do(api.Op{Do: api.List}).Names {
			for gen := range h.Gen {
				l.do(api.Op{Do: api.Read, Name: h.Name, Gen: gen + 1})
			}
		}
		l.do(api.Op{Do: api.List})
	}
	for what, least := range map[string]int{"refused": 500, "list": 500, "file": 500, "chunk": 500, "done": 200} {
		if met[what] < least {
			t.Error("met", met)
		}
	}
}

// P28.1: sources of appliances of all kinds, against the chapter's words.
func TestSourceLife(t *testing.T) {
	met := map[api.Say]int{}
	for seed := range 25 {
		r := rand.New(rand.NewSource(int64(seed)))
		v := appliance(t, layout())
		c := api.Cut{Min: 1 + r.Intn(40), Avg: 1 << r.Intn(7), Max: 60 + r.Intn(300)}
		s := source(t, v, c, seed)
		for range 80 {
			h := held(string(rune('a'+r.Intn(4))), 1+r.Intn(5))
			switch r.Intn(12) {
			case 0, 1:
				put(t, v, h.Name, bytes.Repeat(noise(r.Int63(), 1+r.Intn(200)), r.Intn(8)))
			case 2:
				v.Do(api.Op{Do: api.Delete, Name: h.Name, Gen: r.Intn(5)})
			}
			asked := []api.Note{askList, askFile(h), askChunk(h, r.Intn(4)), askChunk(h, r.Intn(256))}[r.Intn(4)]
			want, e := plainTell(v, c, seed, asked)
			if e != api.OK {
				t.Fatal(e)
			}
			tells(t, s, asked, want)
			met[want.Say]++
		}
	}
	for _, s := range []api.Say{api.TellList, api.TellFile, api.NoFile, api.TellChunk} {
		if met[s] < 100 {
			t.Error("met", met)
		}
	}
}

// P1: bytes of any kind; both sides hear what they can be taken for.
func TestHearAny(t *testing.T) {
	r := rand.New(rand.NewSource(1))
	v, w := appliance(t, layout()), appliance(t, layout())
	put(t, v, "a", noise(1, 500))
	s, k := source(t, v, cut, 7), sink(t, w, 4)
	for range 30000 {
		b := make([]byte, r.Intn(12))
		for i := range b {
			b[i] = []byte{0, 1, 1, 2, 3, 5, 6, 7, 'a', 'a', 0x80, byte(r.Intn(256))}[r.Intn(12)]
		}
		n, e := wire.Take(b)
		told, heard := s.Hear(b)
		if e != api.OK && (heard != e || len(told) > 0) || e == api.OK && (heard == api.OK) != (n.Say == api.AskList || n.Say == api.AskFile || n.Say == api.AskChunk) {
			t.Fatalf("a source hears % x: % x, %d", b, told, heard)
		}
		if _, e := wire.Take(told); heard == api.OK && e != api.OK {
			t.Fatalf("a source tells % x: %d", told, e)
		}
		heard = k.Hear(b)
		if e != api.OK && heard != e || e == api.OK && (heard == api.ErrArg) != (n.Say == api.AskList || n.Say == api.AskFile || n.Say == api.AskChunk) {
			t.Fatalf("a sink hears % x: %d", b, heard)
		}
		if _, e := wire.Take(k.Next()); e != api.OK {
			t.Fatal(e)
		}
	}
}
