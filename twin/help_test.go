package twin_test

import (
	"bytes"
	"crypto/sha256"
	"math/rand"
	"slices"
	"testing"

	"aumbry/api"
	"aumbry/twin"
	"aumbry/vault"
	"aumbry/wire"
)

// The signatures that the chapter lists.
var (
	_ func(*vault.Vault, api.Cut, int) (*twin.Source, api.Errno) = twin.New
	_ func(*twin.Source, []byte) ([]byte, api.Errno)             = (*twin.Source).Hear
	_ func(*vault.Vault, int) (*twin.Sink, api.Errno)            = twin.Open
	_ func(*twin.Sink) []byte                                    = (*twin.Sink).Next
	_ func(*twin.Sink, []byte) api.Errno                         = (*twin.Sink).Hear
	_ func(*twin.Sink) []api.Held                                = (*twin.Sink).Done
	_ func(*twin.Sink) int                                       = (*twin.Sink).Kept
	_ func(*twin.Sink) bool                                      = (*twin.Sink).Busy
)

// layout is an appliance with room for all that a test asks for.
func layout() api.Config {
	return api.Config{Sectors: 1500, Area: 200, Tune: api.Tune{
		Cut: api.Cut{Min: 32, Avg: 32, Max: 160}, Seed: 5, Wide: 16, Seg: 8, Rate: 1, Bits: 1 << 12, Ways: 3, Hooks: 500, Each: 4, Cache: 16, Champs: 4,
	}}
}

func appliance(t *testing.T, c api.Config) *vault.Vault {
	t.Helper()
	v, e := vault.New(c)
	if e != api.OK {
		t.Fatal(e)
	}
	return v
}

// done does what answers OK.
func done(t *testing.T, v *vault.Vault, o api.Op) api.Answer {
	t.Helper()
	a := v.Do(o)
	if a.Errno != api.OK {
		t.Fatalf("%d %d %s: %d", o.Do, o.N, o.Name, a.Errno)
	}
	return a
}

// put has a file have one generation more.
func put(t *testing.T, v *vault.Vault, name string, b []byte) int {
	t.Helper()
	n := done(t, v, api.Op{Do: api.Begin, Name: name}).N
	done(t, v, api.Op{Do: api.Write, N: n, Bytes: b})
	return done(t, v, api.Op{Do: api.Commit, N: n}).N
}

func wantRead(t *testing.T, v *vault.Vault, name string, want []byte) {
	t.Helper()
	if a := v.Do(api.Op{Do: api.Read, Name: name}); a.Errno != api.OK || !bytes.Equal(a.Bytes, want) {
		t.Fatalf("%s: %d bytes, %d; want %d", name, len(a.Bytes), a.Errno, len(want))
	}
}

// sectors is all that an appliance's disk has.
func sectors(t *testing.T, v *vault.Vault, n int) []byte {
	t.Helper()
	var all []byte
	for i := range n {
		b, e := v.Sector(i)
		if e != api.OK {
			t.Fatal(i, e)
		}
		all = append(all, b...)
	}
	return all
}

func sink(t *testing.T, v *vault.Vault, room int) *twin.Sink {
	t.Helper()
	k, e := twin.Open(v, room)
	if e != api.OK {
		t.Fatal(e)
	}
	return k
}

// noise is n bytes that are like no others.
func noise(seed int64, n int) []byte {
	b := make([]byte, n)
	rand.New(rand.NewSource(seed)).Read(b)
	return b
}

func bytesOf(t *testing.T, n api.Note) []byte {
	t.Helper()
	b, e := wire.Put(n)
	if e != api.OK {
		t.Fatalf("%+v: %d", n, e)
	}
	return b
}

func partOf(b []byte) api.Part { return api.Part{Sum: sha256.Sum256(b), Len: len(b)} }

func held(name string, gen int) api.Held { return api.Held{Name: name, Gen: gen} }

func tellList(l ...api.Held) api.Note { return api.Note{Say: api.TellList, Held: l} }

// tellFile tells the parts of a file that has these chunks.
func tellFile(h api.Held, chunks ...string) api.Note {
	n := api.Note{Say: api.TellFile, Name: h.Name, Gen: h.Gen}
	for _, c := range chunks {
		n.Parts = append(n.Parts, partOf([]byte(c)))
	}
	return n
}

func noFile(h api.Held) api.Note { return api.Note{Say: api.NoFile, Name: h.Name, Gen: h.Gen} }

func tellChunk(h api.Held, i int, chunk string) api.Note {
	return api.Note{Say: api.TellChunk, Name: h.Name, Gen: h.Gen, I: i, Bytes: []byte(chunk)}
}

func askFile(h api.Held) api.Note { return api.Note{Say: api.AskFile, Name: h.Name, Gen: h.Gen} }

func askChunk(h api.Held, i int) api.Note {
	return api.Note{Say: api.AskChunk, Name: h.Name, Gen: h.Gen, I: i}
}

var askList = api.Note{Say: api.AskList}

// hears: a sink takes notes, each with OK.
func hears(t *testing.T, k *twin.Sink, l ...api.Note) {
	t.Helper()
	for _, n := range l {
		if e := k.Hear(bytesOf(t, n)); e != api.OK {
			t.Fatalf("Hear of %+v: %d", n, e)
		}
	}
}

func wantHear(t *testing.T, k *twin.Sink, n api.Note, want api.Errno) {
	t.Helper()
	if e := k.Hear(bytesOf(t, n)); e != want {
		t.Fatalf("Hear of %+v: %d, want %d", n, e, want)
	}
}

// asks: that is what a sink asks, as often as it is called.
func asks(t *testing.T, k *twin.Sink, want api.Note) {
	t.Helper()
	for range 3 {
		if b := k.Next(); !bytes.Equal(b, bytesOf(t, want)) {
			n, e := wire.Take(b)
			t.Fatalf("Next: %+v, %d; want %+v", n, e, want)
		}
	}
}

func wantDone(t *testing.T, k *twin.Sink, want ...api.Held) {
	t.Helper()
	if l := k.Done(); !slices.Equal(l, want) {
		t.Fatalf("Done: %v, want %v", l, want)
	}
}

func wantKept(t *testing.T, k *twin.Sink, want int) {
	t.Helper()
	if n := k.Kept(); n != want {
		t.Fatalf("Kept: %d, want %d", n, want)
	}
}

func wantBusy(t *testing.T, k *twin.Sink, want bool) {
	t.Helper()
	if is := k.Busy(); is != want {
		t.Fatalf("Busy: %t", is)
	}
}

// starts has a sink have a generation under way, whose file has these chunks.
func starts(t *testing.T, k *twin.Sink, h api.Held, chunks ...string) {
	t.Helper()
	asks(t, k, askList)
	hears(t, k, tellList(h))
	asks(t, k, askFile(h))
	hears(t, k, tellFile(h, chunks...))
}
