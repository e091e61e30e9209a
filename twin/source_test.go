package twin_test

import (
	"bytes"
	"math"
	"math/rand"
	"slices"
	"testing"

	"aumbry/api"
	"aumbry/gear"
	"aumbry/twin"
	"aumbry/vault"
	"aumbry/wire"
)

var cut = api.Cut{Min: 16, Avg: 16, Max: 100}

func source(t *testing.T, v *vault.Vault, c api.Cut, seed int) *twin.Source {
	t.Helper()
	s, e := twin.New(v, c, seed)
	if e != api.OK {
		t.Fatal(e)
	}
	return s
}

// tells: that is what a source answers.
func tells(t *testing.T, s *twin.Source, asked, want api.Note) {
	t.Helper()
	b, e := s.Hear(bytesOf(t, asked))
	if e != api.OK || !bytes.Equal(b, bytesOf(t, want)) {
		n, _ := wire.Take(b)
		t.Fatalf("Hear of %+v: %+v, %d; want %+v", asked, n, e, want)
	}
}

func wantDeaf(t *testing.T, s *twin.Source, b []byte, want api.Errno) {
	t.Helper()
	if told, e := s.Hear(b); e != want || len(told) != 0 {
		t.Fatalf("Hear(% x): % x, %d; want %d", b, told, e, want)
	}
}

// wantFile: a source tells a file's parts, and each of its chunks, and nothing behind them.
func wantFile(t *testing.T, s *twin.Source, h api.Held, c api.Cut, seed int, b []byte) {
	t.Helper()
	chunks, e := gear.All(c, gear.Table(uint64(seed)), b)
	if e != api.OK {
		t.Fatal(e)
	}
	if len(chunks) > 256 {
		t.Fatal("too many parts", len(chunks))
	}
	want := tellFile(h)
	for i, chunk := range chunks {
		want.Parts = append(want.Parts, partOf(chunk))
		tells(t, s, askChunk(h, i), tellChunk(h, i, string(chunk)))
	}
	tells(t, s, askFile(h), want)
	for _, i := range []int{len(chunks), len(chunks) + 1, 254, 255} {
		if i >= len(chunks) && i < 256 {
			tells(t, s, askChunk(h, i), noFile(h))
		}
	}
}

// wantNone: a source has no such file.
func wantNone(t *testing.T, s *twin.Source, h api.Held) {
	t.Helper()
	tells(t, s, askFile(h), noFile(h))
	for _, i := range []int{0, 1, 255} {
		tells(t, s, askChunk(h, i), noFile(h))
	}
}

// P28.1: what is no source.
func TestNewWrong(t *testing.T) {
	v := appliance(t, layout())
	wrong := func(v *vault.Vault, c api.Cut, seed int, want api.Errno) {
		t.Helper()
		if s, e := twin.New(v, c, seed); s != nil || e != want {
			t.Errorf("New of %v, %d: %d, want %d", c, seed, e, want)
		}
	}
	for _, seed := range []int{-1, math.MinInt, api.MaxNum + 1, math.MaxInt} {
		wrong(nil, cut, seed, api.ErrNil)
		wrong(v, cut, seed, api.ErrArg)
		wrong(v, api.Cut{}, seed, api.ErrArg)
	}
	for _, c := range []api.Cut{{}, {Min: 0, Avg: 1, Max: 9}, {Min: 10, Avg: 1, Max: 9}, {Min: 1, Avg: 3, Max: 9}, {Min: 1, Avg: 512, Max: 9}, {Min: 1, Avg: 1, Max: 513}} {
		wrong(nil, c, 7, api.ErrNil)
		wrong(v, c, 7, api.ErrArg)
	}
	wrong(nil, cut, 7, api.ErrNil)
	for _, seed := range []int{0, 1, api.MaxNum - 1, api.MaxNum} {
		for _, c := range []api.Cut{cut, {Min: 1, Avg: 1, Max: 1}, {Min: 512, Avg: 256, Max: 512}} {
			source(t, v, c, seed)
		}
	}
}

// P28.1, P1: a source that no call made, and one whose appliance none made.
func TestNoSource(t *testing.T) {
	for _, s := range []*twin.Source{nil, {}} {
		for _, b := range [][]byte{nil, {}, {1}, {2, 0}, {0x80, 0}, []byte("\x03\x01a\x01")} {
			wantDeaf(t, s, b, api.ErrNil)
		}
	}
	s := source(t, &vault.Vault{}, cut, 7)
	wantDeaf(t, s, []byte{1}, api.ErrNil)
	wantNone(t, s, held("a", 1))
}

// P28.1: bytes that ask nothing.
func TestSourceHearWrong(t *testing.T) {
	v := appliance(t, layout())
	put(t, v, "a", noise(1, 300))
	s := source(t, v, cut, 7)
	for text, want := range map[string]api.Errno{
		"": api.ErrShort, "\x03": api.ErrShort, "\x00": api.ErrForm, "\x08": api.ErrForm, "\x01\x00": api.ErrForm, "\x80\x00": api.ErrForm,
		"\x03\x01a\x00": api.ErrArg, "\x03\x01 \x01": api.ErrArg, "\x06\x01a\x01\x80\x02": api.ErrArg, "\x03\x21": api.ErrLimit, "\x02\x41": api.ErrLimit, "\x02\x01": api.ErrShort,
	} {
		wantDeaf(t, s, []byte(text), want)
	}
	a := held("a", 1)
	for _, n := range []api.Note{tellList(), tellList(a), tellFile(a), tellFile(a, "x"), noFile(a), tellChunk(a, 0, "x"), tellChunk(held("b", 1), 3, "x")} {
		wantDeaf(t, s, bytesOf(t, n), api.ErrArg)
	}
}

// P28.1: what files there are.
func TestTellList(t *testing.T) {
	v := appliance(t, layout())
	s := source(t, v, cut, 7)
	tells(t, s, askList, tellList())
	put(t, v, "b", nil)
	tells(t, s, askList, tellList(held("b", 1)))
	put(t, v, "a", noise(1, 500))
	put(t, v, "b", noise(2, 90))
	tells(t, s, askList, tellList(held("a", 1), held("b", 2)))
	done(t, v, api.Op{Do: api.Delete, Name: "b"})
	tells(t, s, askList, tellList(held("a", 1), held("b", 1)))
	done(t, v, api.Op{Do: api.Delete, Name: "a"})
	tells(t, s, askList, tellList(held("b", 1)))
	// A session is no file.
	done(t, v, api.Op{Do: api.Begin, Name: "c"})
	tells(t, s, askList, tellList(held("b", 1)))
}

// P28.1: as many files as there may be.
func TestTellLongList(t *testing.T) {
	v := appliance(t, layout())
	s := source(t, v, cut, 7)
	var l []api.Held
	for i := range api.MaxFiles {
		name := string(rune('!'+i)) + "123456789012345678901234567890"
		put(t, v, name, noise(int64(i), 5))
		l = append(l, held(name, 1))
	}
	tells(t, s, askList, tellList(l...))
}

// P28.1: files, cut in many ways.
func TestTellFile(t *testing.T) {
	v := appliance(t, layout())
	r := rand.New(rand.NewSource(1))
	files := map[string][]byte{"empty": nil, "one": {7}, "even": make([]byte, 1000), "long": noise(3, 3000)}
	for name, b := range files {
		put(t, v, name, b)
	}
	for _, c := range []api.Cut{cut, {Min: 5, Avg: 16, Max: 200}, {Min: 60, Avg: 256, Max: 512}, {Min: 512, Avg: 1, Max: 512}} {
		for _, seed := range []int{0, 7, r.Intn(api.MaxNum), api.MaxNum} {
			s := source(t, v, c, seed)
			for name, b := range files {
				wantFile(t, s, held(name, 1), c, seed, b)
			}
		}
	}
}

// P28.1: the generation that is asked for, as long as it is there.
func TestTellGeneration(t *testing.T) {
	v := appliance(t, layout())
	s := source(t, v, cut, 7)
	texts := [][]byte{noise(1, 300), noise(2, 700), noise(3, 10)}
	for _, b := range texts {
		put(t, v, "a", b)
	}
	put(t, v, "b", texts[0])
	for i, b := range texts {
		wantFile(t, s, held("a", i+1), cut, 7, b)
	}
	for _, h := range []api.Held{held("a", 4), held("a", api.MaxNum), held("b", 2), held("c", 1), held("A", 1)} {
		wantNone(t, s, h)
	}
	done(t, v, api.Op{Do: api.Snap, Shot: "s"})
	done(t, v, api.Op{Do: api.Delete, Name: "a", Gen: 3})
	done(t, v, api.Op{Do: api.Delete, Name: "a", Gen: 1})
	wantNone(t, s, held("a", 1))
	wantNone(t, s, held("a", 3))
	wantFile(t, s, held("a", 2), cut, 7, texts[1])
}

// P28.1: as many parts as may be, and one more.
func TestTellManyParts(t *testing.T) {
	v := appliance(t, layout())
	one := api.Cut{Min: 1, Avg: 1, Max: 1}
	s := source(t, v, one, 7)
	for _, n := range []int{1, 127, 128, 255, 256} {
		b := noise(int64(n), n)
		gen := put(t, v, "a", b)
		wantFile(t, s, held("a", gen), one, 7, b)
	}
	for _, n := range []int{257, 258, 3000} {
		gen := put(t, v, "a", noise(int64(n), n))
		wantNone(t, s, held("a", gen))
	}
}

// P28.1: what can't be read is not there; what can be is.
func TestTellRotten(t *testing.T) {
	v := appliance(t, layout())
	s := source(t, v, cut, 7)
	put(t, v, "a", noise(1, 600))
	before := v.Places()
	put(t, v, "b", noise(2, 600))
	for _, p := range v.Places() {
		if !slices.Contains(before, p) {
			done(t, v, api.Op{Do: api.Rot, N: p.Run.At + 1, Bytes: noise(3, 128)})
		}
	}
	if a := v.Do(api.Op{Do: api.Read, Name: "b"}); a.Errno != api.ErrRot {
		t.Fatal(a.Errno)
	}
	wantNone(t, s, held("b", 1))
	wantFile(t, s, held("a", 1), cut, 7, noise(1, 600))
	tells(t, s, askList, tellList(held("a", 1), held("b", 1)))
}

// P28.1: an appliance that is not up: its error is told for the list, and no file is there.
func TestSourceDown(t *testing.T) {
	v := appliance(t, layout())
	s := source(t, v, cut, 7)
	put(t, v, "a", noise(1, 600))
	done(t, v, api.Op{Do: api.Fall, Crash: api.Crash{Torn: -1}})
	wantDeaf(t, s, []byte{1}, api.ErrDown)
	wantNone(t, s, held("a", 1))
	wantDeaf(t, s, []byte{2, 0}, api.ErrArg)
	done(t, v, api.Op{Do: api.Mount})
	tells(t, s, askList, tellList(held("a", 1)))
	wantFile(t, s, held("a", 1), cut, 7, noise(1, 600))
}

// P28.1, P3, P6: to be asked changes nothing, neither there nor in what is handed in; what is answered is new memory.
func TestSourceChangesNothing(t *testing.T) {
	c := layout()
	v := appliance(t, c)
	put(t, v, "a", noise(1, 600))
	put(t, v, "b", nil)
	s := source(t, v, cut, 7)
	disk, entries := sectors(t, v, c.Sectors), v.Entries()
	for _, n := range []api.Note{askList, askFile(held("a", 1)), askFile(held("b", 1)), askFile(held("c", 1)), askChunk(held("a", 1), 0), askChunk(held("a", 1), 200)} {
		b := append(bytesOf(t, n), 77, 77)
		was := bytes.Clone(b)
		told, e := s.Hear(b[:len(b)-2])
		again, _ := s.Hear(b[:len(b)-2])
		if e != api.OK || !bytes.Equal(b, was) {
			t.Fatal("what was handed in is changed", e)
		}
		want := bytes.Clone(told)
		clear(again[:cap(again)])
		clear(b)
		if third, _ := s.Hear(was[:len(was)-2]); !bytes.Equal(told, want) || !bytes.Equal(third, want) {
			t.Fatal("what is answered is kept, or lies in what was handed in")
		}
	}
	if !bytes.Equal(sectors(t, v, c.Sectors), disk) || v.Entries() != entries {
		t.Fatal("the appliance is changed")
	}
}
