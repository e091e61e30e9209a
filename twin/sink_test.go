package twin_test

import (
	"bytes"
	"math"
	"slices"
	"strings"
	"testing"

	"aumbry/api"
	"aumbry/twin"
	"aumbry/vault"
)

// P28.2: what is no sink.
func TestOpenWrong(t *testing.T) {
	v := appliance(t, layout())
	wrong := func(v *vault.Vault, room int, want api.Errno) {
		t.Helper()
		if k, e := twin.Open(v, room); k != nil || e != want {
			t.Errorf("Open by %d: %d, want %d", room, e, want)
		}
	}
	for _, room := range []int{0, -1, 257, math.MinInt, math.MaxInt} {
		wrong(nil, room, api.ErrNil)
		wrong(v, room, api.ErrArg)
	}
	for _, room := range []int{1, 2, 255, 256} {
		wrong(nil, room, api.ErrNil)
		sink(t, v, room)
	}
}

// P28.2, P28.3, P28.4, P1: a sink that no call made.
func TestNoSink(t *testing.T) {
	for _, k := range []*twin.Sink{nil, {}} {
		for _, b := range [][]byte{nil, {1}, {2, 0}, {0x80, 0}, bytesOf(t, tellFile(held("a", 1))), bytesOf(t, tellList(held("a", 1)))} {
			if e := k.Hear(b); e != api.ErrNil {
				t.Errorf("Hear(% x): %d", b, e)
			}
			if b := k.Next(); len(b) != 0 {
				t.Errorf("Next: % x", b)
			}
			wantDone(t, k)
			wantKept(t, k, 0)
			wantBusy(t, k, false)
		}
	}
}

// P28.3: the chapter's example, and a file from the beginning to the end.
func TestSinkKnown(t *testing.T) {
	v := appliance(t, layout())
	k := sink(t, v, 9)
	a := held("a", 1)
	asks(t, k, askList)
	if string(k.Next()) != "\x01" {
		t.Fatal("the first note")
	}
	wantDone(t, k)
	wantKept(t, k, 0)
	wantBusy(t, k, false)
	hears(t, k, tellList(a))
	wantBusy(t, k, true)
	asks(t, k, askFile(a))
	wantBusy(t, k, true)
	hears(t, k, tellFile(a, "one ", "two"))
	asks(t, k, askChunk(a, 0))
	hears(t, k, tellChunk(a, 0, "one "))
	wantKept(t, k, 1)
	wantBusy(t, k, true)
	wantDone(t, k)
	asks(t, k, askChunk(a, 1))
	hears(t, k, tellChunk(a, 1, "two"))
	wantKept(t, k, 2)
	wantBusy(t, k, false)
	wantDone(t, k, a)
	asks(t, k, askList)
	wantRead(t, v, "a", []byte("one two"))
}

// P28.4: bytes that tell nothing change nothing, whatever the sink does.
func TestSinkHearWrong(t *testing.T) {
	a := held("a", 1)
	wrong := func(k *twin.Sink, next api.Note) {
		t.Helper()
		for text, want := range map[string]api.Errno{
			"": api.ErrShort, "\x03": api.ErrShort, "\x00": api.ErrForm, "\x08": api.ErrForm, "\x02\x00\x00": api.ErrForm, "\x80\x00": api.ErrForm,
			"\x05\x01a\x00": api.ErrArg, "\x05\x01 \x01": api.ErrArg, "\x07\x01a\x01\x01\x00": api.ErrArg, "\x05\x21": api.ErrLimit, "\x02\x41": api.ErrLimit, "\x02\x01": api.ErrShort,
		} {
			if e := k.Hear([]byte(text)); e != want {
				t.Fatalf("Hear(% x): %d, want %d", text, e, want)
			}
			asks(t, k, next)
		}
		for _, n := range []api.Note{askList, askFile(a), askFile(held("b", 1)), askChunk(a, 0), askChunk(a, 1), askChunk(held("b", 1), 0)} {
			wantHear(t, k, n, api.ErrArg)
			asks(t, k, next)
		}
	}
	k := sink(t, appliance(t, layout()), 9)
	wrong(k, askList)
	hears(t, k, tellList(a, held("b", 1)))
	wrong(k, askFile(a))
	hears(t, k, tellFile(a, "x", "y", "z"))
	wrong(k, askChunk(a, 0))
	hears(t, k, tellChunk(a, 1, "y"))
	wrong(k, askChunk(a, 0))
	wantKept(t, k, 1)
	hears(t, k, tellChunk(a, 0, "x"), tellChunk(a, 2, "z"))
	wrong(k, askFile(held("b", 1)))
	wantDone(t, k, a)
}

// P28.3, P28.4: the files of a list come in its order; a list that comes meanwhile changes nothing.
func TestList(t *testing.T) {
	v := appliance(t, layout())
	k := sink(t, v, 9)
	other := tellList(held("z", 9))
	hears(t, k, tellList(), tellList())
	wantBusy(t, k, false)
	hears(t, k, tellList(held("b", 2), held("a", 7), held("c", 1)))
	hears(t, k, other, tellList())
	wantBusy(t, k, true)
	for _, h := range []api.Held{held("b", 2), held("a", 7), held("c", 1)} {
		hears(t, k, other)
		asks(t, k, askFile(h))
		hears(t, k, other)
		asks(t, k, askFile(h))
		hears(t, k, tellFile(h, h.Name), other)
		asks(t, k, askChunk(h, 0))
		wantBusy(t, k, true)
		hears(t, k, tellChunk(h, 0, h.Name))
		wantBusy(t, k, h.Name != "c")
	}
	wantDone(t, k, held("a", 7), held("b", 2), held("c", 1))
	asks(t, k, askList)
	hears(t, k, tellList(held("a", 7), held("c", 1)))
	wantBusy(t, k, false)
	hears(t, k, tellList(held("a", 7), held("c", 1), held("b", 2)), other)
	wantBusy(t, k, true)
	asks(t, k, askFile(held("z", 9)))
}

// P28.3, P28.4: behind a list's last one, which is under way, a list plays no part yet.
func TestListWhileUnderWay(t *testing.T) {
	k := sink(t, appliance(t, layout()), 9)
	hears(t, k, tellList(held("a", 1)))
	asks(t, k, askFile(held("a", 1)))
	hears(t, k, tellList(held("b", 1)), tellFile(held("a", 1)))
	wantBusy(t, k, false)
	asks(t, k, askList)
	hears(t, k, tellList(held("b", 1)))
	asks(t, k, askFile(held("b", 1)))
}

// P28.4: of a list only those come whose generation is not the one that is done, be it greater or smaller.
func TestListOfDone(t *testing.T) {
	v := appliance(t, layout())
	k := sink(t, v, 9)
	for i, gen := range []int{5, 6, 4, 1, api.MaxNum, 5} {
		h := held("a", gen)
		starts(t, k, h, "text")
		if i == 0 {
			hears(t, k, tellChunk(h, 0, "text"))
		}
		wantDone(t, k, h)
		hears(t, k, tellList(h))
		wantBusy(t, k, false)
	}
	hears(t, k, tellList(held("A", 5), held("a", 5), held("aa", 5), held("a", 4)))
	for _, h := range []api.Held{held("A", 5), held("aa", 5), held("a", 4)} {
		asks(t, k, askFile(h))
		hears(t, k, noFile(h))
	}
	wantBusy(t, k, false)
	wantDone(t, k, held("a", 5))
}

// P28.4: a list in which one stands twice has it come twice: what is done is asked when the list comes.
func TestListTwice(t *testing.T) {
	v := appliance(t, layout())
	k := sink(t, v, 9)
	a := held("a", 3)
	hears(t, k, tellList(a, a))
	asks(t, k, askFile(a))
	hears(t, k, tellFile(a))
	asks(t, k, askFile(a))
	hears(t, k, tellFile(a))
	wantBusy(t, k, false)
	wantDone(t, k, a)
	if l := v.Do(api.Op{Do: api.List}).Names; !slices.Equal(l, []api.Held{held("a", 2)}) {
		t.Fatal(l)
	}
}

// P28.4: what is told ahead of the first question, and of what is only to come, or was done, changes nothing.
func TestNotUnderWay(t *testing.T) {
	v := appliance(t, layout())
	k := sink(t, v, 9)
	a, b := held("a", 1), held("b", 1)
	nothing := func(h api.Held, next api.Note) {
		t.Helper()
		kept := k.Kept()
		hears(t, k, noFile(h), tellFile(h), tellFile(h, "x"), tellChunk(h, 0, "x"), tellChunk(h, 0, "strange"))
		wantKept(t, k, kept)
		asks(t, k, next)
	}
	nothing(a, askList)
	hears(t, k, tellList(a, b))
	hears(t, k, noFile(a), tellFile(a), tellChunk(a, 0, "x"))
	for _, h := range []api.Held{b, held("a", 2), held("A", 1), held("aa", 1), held("c", 1)} {
		nothing(h, askFile(a))
	}
	hears(t, k, tellFile(a, "x", "y"))
	for _, h := range []api.Held{b, held("a", 2), held("A", 1), held("aa", 1), held("c", 1)} {
		nothing(h, askChunk(a, 0))
	}
	hears(t, k, tellChunk(a, 1, "y"), tellChunk(a, 0, "x"))
	nothing(a, askFile(b))
	hears(t, k, tellFile(b))
	nothing(a, askList)
	nothing(b, askList)
	wantDone(t, k, a, b)
	if l := v.Do(api.Op{Do: api.List}).Names; !slices.Equal(l, []api.Held{a, b}) {
		t.Fatal(l)
	}
}

// P28.4: a file that is not there is under way no more, whatever of it is there already; nor is it done.
func TestNoFile(t *testing.T) {
	v := appliance(t, layout())
	k := sink(t, v, 9)
	a, b := held("a", 1), held("b", 4)
	hears(t, k, tellList(a, b))
	asks(t, k, askFile(a))
	hears(t, k, noFile(a), noFile(b))
	wantBusy(t, k, true)
	asks(t, k, askFile(b))
	hears(t, k, tellFile(b, "x", "y"), tellChunk(b, 0, "x"), noFile(b), tellChunk(b, 1, "y"))
	wantBusy(t, k, false)
	wantDone(t, k)
	wantKept(t, k, 1)
	if l := v.Do(api.Op{Do: api.List}).Names; len(l) > 0 {
		t.Fatal(l)
	}
	// Both come again; the chunk that is kept is not asked for.
	hears(t, k, tellList(b, a))
	asks(t, k, askFile(b))
	hears(t, k, tellFile(b, "x", "y"))
	asks(t, k, askChunk(b, 1))
}

// P28.4: a file without parts is done at once; it is there, and has no bytes.
func TestEmptyFile(t *testing.T) {
	v := appliance(t, layout())
	k := sink(t, v, 1)
	starts(t, k, held("a", 3))
	wantDone(t, k, held("a", 3))
	wantBusy(t, k, false)
	wantRead(t, v, "a", nil)
	asks(t, k, askList)
}

// P28.4: parts that are known stay as they are, whatever is told of them then.
func TestPartsTwice(t *testing.T) {
	v := appliance(t, layout())
	k := sink(t, v, 9)
	a := held("a", 1)
	starts(t, k, a, "x", "y", "z")
	hears(t, k, tellFile(a), tellFile(a, "x"), tellFile(a, "u", "v", "w"))
	asks(t, k, askChunk(a, 0))
	hears(t, k, tellChunk(a, 0, "x"), tellFile(a), tellFile(a, "x"), tellFile(a, "x", "x", "x"))
	asks(t, k, askChunk(a, 1))
	hears(t, k, tellChunk(a, 1, "y"), tellFile(a, "u"), tellChunk(a, 2, "z"))
	wantRead(t, v, "a", []byte("xyz"))
}

// P28.3, P28.4: chunks may come in any order, and again; the first that is not there is asked for.
func TestChunksInAnyOrder(t *testing.T) {
	v := appliance(t, layout())
	k := sink(t, v, 9)
	a := held("a", 1)
	starts(t, k, a, "u", "v", "w", "x", "y")
	for _, step := range []struct {
		i    int
		text string
		next int
	}{{3, "x", 0}, {3, "x", 0}, {0, "u", 1}, {0, "u", 1}, {2, "w", 1}, {1, "v", 4}, {1, "v", 4}} {
		hears(t, k, tellChunk(a, step.i, step.text))
		asks(t, k, askChunk(a, step.next))
	}
	wantKept(t, k, 4)
	hears(t, k, tellChunk(a, 4, "y"))
	wantRead(t, v, "a", []byte("uvwxy"))
	wantKept(t, k, 5)
}

// P28.4: all parts that are alike are there with the first one of them.
func TestLikeParts(t *testing.T) {
	v := appliance(t, layout())
	k := sink(t, v, 9)
	a := held("a", 1)
	starts(t, k, a, "x", "y", "x", "x", "z", "y")
	asks(t, k, askChunk(a, 0))
	hears(t, k, tellChunk(a, 3, "x"))
	asks(t, k, askChunk(a, 1))
	hears(t, k, tellChunk(a, 2, "strange"), tellChunk(a, 0, "strange"))
	asks(t, k, askChunk(a, 1))
	hears(t, k, tellChunk(a, 1, "y"))
	asks(t, k, askChunk(a, 4))
	wantKept(t, k, 2)
	hears(t, k, tellChunk(a, 4, "z"))
	wantRead(t, v, "a", []byte("xyxxzy"))
	wantKept(t, k, 3)
}

// P28.4: bytes that are not the part's have its parts not be known any more; what is kept is.
func TestStrangeChunk(t *testing.T) {
	a := held("a", 1)
	for _, strange := range []string{"Y", "yy", "x", "z", "y\x00", strings.Repeat("y", 512)} {
		v := appliance(t, layout())
		k := sink(t, v, 9)
		starts(t, k, a, "x", "y", "z")
		hears(t, k, tellChunk(a, 0, "x"), tellChunk(a, 1, strange))
		wantKept(t, k, 1)
		wantBusy(t, k, true)
		asks(t, k, askFile(a))
		hears(t, k, tellChunk(a, 1, "y"), tellChunk(a, 0, "x"), tellChunk(a, 2, strange))
		wantKept(t, k, 1)
		asks(t, k, askFile(a))
		hears(t, k, tellFile(a, "v", "x", "w"))
		asks(t, k, askChunk(a, 0))
		hears(t, k, tellChunk(a, 0, "v"))
		asks(t, k, askChunk(a, 2))
		hears(t, k, tellChunk(a, 2, "w"))
		wantRead(t, v, "a", []byte("vxw"))
		wantDone(t, k, a)
	}
}

// P28.4: a part whose length is not that of the bytes that have its sum.
func TestStrangeLength(t *testing.T) {
	for _, n := range []int{1, 2, 4, 512} {
		k := sink(t, appliance(t, layout()), 9)
		a, b := held("a", 1), held("b", 1)
		forged := tellFile(a, "xyz")
		forged.Parts[0].Len = n
		hears(t, k, tellList(a, b))
		asks(t, k, askFile(a))
		hears(t, k, forged)
		asks(t, k, askChunk(a, 0))
		hears(t, k, tellChunk(a, 0, "xyz"))
		wantKept(t, k, 0)
		asks(t, k, askFile(a))
		hears(t, k, tellFile(a, "xyz"), tellChunk(a, 0, "xyz"))
		wantKept(t, k, 1)
		// The chunk that is kept has the sum, but another length.
		forged.Name = "b"
		asks(t, k, askFile(b))
		hears(t, k, forged)
		asks(t, k, askChunk(b, 0))
	}
}

// P28.4: of a part that is there, or of one that the file has not, nothing is heard.
func TestChunkOfNoPart(t *testing.T) {
	v := appliance(t, layout())
	k := sink(t, v, 9)
	a := held("a", 1)
	starts(t, k, a, "x", "y")
	hears(t, k, tellChunk(a, 0, "x"))
	for _, i := range []int{0, 2, 3, 255} {
		for _, text := range []string{"x", "y", "strange"} {
			hears(t, k, tellChunk(a, i, text))
			asks(t, k, askChunk(a, 1))
			wantKept(t, k, 1)
		}
	}
	hears(t, k, tellChunk(a, 1, "y"))
	wantRead(t, v, "a", []byte("xy"))
}

// keeps: of these chunks that is what a sink keeps; nothing is asked of it that would change what it keeps.
func keeps(t *testing.T, k *twin.Sink, want string, chunks ...string) {
	t.Helper()
	var kept string
	for _, c := range chunks {
		h := held("probe", 1)
		hears(t, k, tellList(h))
		asks(t, k, askFile(h))
		// The second part has no chunk, so that nothing is filed.
		n := tellFile(h, c)
		n.Parts = append(n.Parts, api.Part{Len: 9})
		hears(t, k, n)
		if bytes.Equal(k.Next(), bytesOf(t, askChunk(h, 1))) {
			kept += c
		}
		hears(t, k, noFile(h))
	}
	if kept != want {
		t.Fatalf("kept: %s, want %s", kept, want)
	}
	wantKept(t, k, len(want))
}

// P28.4, P28.7: those are kept that came last, used or not; what is there of a file is, kept or not.
func TestRoom(t *testing.T) {
	v := appliance(t, layout())
	k := sink(t, v, 3)
	all := []string{"u", "v", "w", "x", "y", "z"}
	keeps(t, k, "", all...)
	starts(t, k, held("a", 1), "u", "v")
	hears(t, k, tellChunk(held("a", 1), 1, "v"), tellChunk(held("a", 1), 0, "u"))
	keeps(t, k, "uv", all...)
	// Both are used, and came first still.
	starts(t, k, held("b", 1), "v", "u", "w", "v")
	asks(t, k, askChunk(held("b", 1), 2))
	hears(t, k, tellChunk(held("b", 1), 2, "w"))
	wantRead(t, v, "b", []byte("vuwv"))
	keeps(t, k, "uvw", all...)
	starts(t, k, held("c", 1), "v", "x")
	hears(t, k, tellChunk(held("c", 1), 1, "x"))
	wantRead(t, v, "c", []byte("vx"))
	keeps(t, k, "uwx", all...)
	// One comes again that was kept no more: it is the last one now.
	starts(t, k, held("d", 1), "v", "u")
	asks(t, k, askChunk(held("d", 1), 0))
	hears(t, k, tellChunk(held("d", 1), 0, "v"))
	wantRead(t, v, "d", []byte("vu"))
	keeps(t, k, "vwx", all...)
	starts(t, k, held("e", 1), all...)
	for i, c := range all {
		hears(t, k, tellChunk(held("e", 1), i, c))
	}
	wantRead(t, v, "e", []byte("uvwxyz"))
	wantDone(t, k, held("a", 1), held("b", 1), held("c", 1), held("d", 1), held("e", 1))
	keeps(t, k, "uyz", all...)
}

// P28.4: what of a file was there and is kept no more is asked for again, once its parts were forgotten.
func TestForgotten(t *testing.T) {
	v := appliance(t, layout())
	k := sink(t, v, 1)
	a := held("a", 1)
	chunks := []string{"u", "v", "w"}
	starts(t, k, a, chunks...)
	hears(t, k, tellChunk(a, 0, "u"), tellChunk(a, 1, "v"))
	asks(t, k, askChunk(a, 2))
	hears(t, k, tellChunk(a, 2, "strange"), tellFile(a, chunks...))
	asks(t, k, askChunk(a, 0))
	hears(t, k, tellChunk(a, 1, "strange"))
	asks(t, k, askChunk(a, 0))
	hears(t, k, tellChunk(a, 2, "w"))
	asks(t, k, askChunk(a, 0))
	hears(t, k, tellChunk(a, 0, "u"))
	wantRead(t, v, "a", []byte("uvw"))
	keeps(t, k, "u", chunks...)
}

// P28.2, P28.7: as many chunks as there is room for, one more, and twice as many.
func TestKept(t *testing.T) {
	for _, room := range []int{1, 2, 100, 255, 256} {
		k := sink(t, appliance(t, layout()), room)
		for gen := range 2 {
			h := held("a", gen+1)
			n := tellFile(h)
			chunk := func(i int) string { return string(noise(int64(i+256*gen), 4)) }
			for i := range 256 {
				n.Parts = append(n.Parts, partOf([]byte(chunk(i))))
			}
			hears(t, k, tellList(h))
			asks(t, k, askFile(h))
			hears(t, k, n)
			for i := range 256 {
				hears(t, k, tellChunk(h, i, chunk(i)))
				wantKept(t, k, min(room, i+1+256*gen))
			}
			wantDone(t, k, h)
		}
	}
}

// P28.2: what is done, by names.
func TestDone(t *testing.T) {
	k := sink(t, appliance(t, layout()), 9)
	l := []api.Held{held("b", 2), held("~", 1), held("a", api.MaxNum), held("!", 3), held("ab", 1), held("B", 7), held("aa", 5)}
	hears(t, k, tellList(l...))
	for i, h := range l {
		asks(t, k, askFile(h))
		hears(t, k, tellFile(h))
		want := slices.Clone(l[:i+1])
		slices.SortFunc(want, func(a, b api.Held) int { return strings.Compare(a.Name, b.Name) })
		wantDone(t, k, want...)
	}
	hears(t, k, tellList(held("b", 1)))
	asks(t, k, askFile(held("b", 1)))
	hears(t, k, tellFile(held("b", 1)))
	wantDone(t, k, held("!", 3), held("B", 7), held("a", api.MaxNum), held("aa", 5), held("ab", 1), held("b", 1), held("~", 1))
}

// P3, P6: what is handed in stays, and is not kept; what is answered is new memory.
func TestSinkMemory(t *testing.T) {
	v := appliance(t, layout())
	k := sink(t, v, 9)
	a, b := held("a", 1), held("b", 1)
	for _, n := range []api.Note{tellList(a, b), tellFile(a, "xxx", "yyy"), tellChunk(a, 0, "xxx"), tellChunk(a, 1, "yyy"), tellFile(b, "yyy", "xxx")} {
		asked := k.Next()
		want := bytes.Clone(asked)
		note := append(bytesOf(t, n), 77, 77)
		was := bytes.Clone(note)
		if e := k.Hear(note[:len(note)-2]); e != api.OK || !bytes.Equal(note, was) || !bytes.Equal(asked, want) {
			t.Fatal("what was handed in, or answered, is changed", e)
		}
		clear(note)
		clear(asked[:cap(asked)])
		l, other := k.Done(), k.Done()
		clear(other[:cap(other)])
		if !slices.Equal(l, k.Done()) {
			t.Fatal("what is answered is kept")
		}
	}
	wantDone(t, k, a, b)
	wantRead(t, v, "a", []byte("xxxyyy"))
	wantRead(t, v, "b", []byte("yyyxxx"))
}

// P4, P6: two sinks know nothing of each other, be it with one appliance.
func TestTwoSinks(t *testing.T) {
	v := appliance(t, layout())
	k, m := sink(t, v, 9), sink(t, v, 9)
	a := held("a", 1)
	starts(t, k, a, "x")
	hears(t, k, tellChunk(a, 0, "x"))
	wantDone(t, m)
	wantKept(t, m, 0)
	starts(t, m, a, "x")
	asks(t, m, askChunk(a, 0))
	hears(t, m, tellChunk(a, 0, "x"))
	if l := v.Do(api.Op{Do: api.List}).Names; !slices.Equal(l, []api.Held{held("a", 2)}) {
		t.Fatal(l)
	}
}
