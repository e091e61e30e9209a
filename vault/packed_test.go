package vault

import (
	"bytes"
	"testing"

	"aumbry/api"
	"aumbry/digest"
	"aumbry/pack"
)

// packerOf is a packer with chunks.
func packerOf(t *testing.T, number int, chunks ...[]byte) *pack.Packer {
	t.Helper()
	p, e := pack.New(number, 16)
	if e != api.OK {
		t.Fatal(e)
	}
	for _, b := range chunks {
		if _, e := p.Add(b); e != api.OK {
			t.Fatal(e)
		}
	}
	return p
}

// P19.3: a chunk lies in the first slot of the session's packer that has its bytes, whatever its sum is.
func TestPackedByBytes(t *testing.T) {
	one, two, more := []byte("one"), []byte("two"), []byte("one more")
	x := &session{packer: packerOf(t, 7, two, one, two, one), number: 7}
	for _, sum := range []api.Sum{digest.Sum(one), digest.Sum(two), digest.Sum(more), {}} {
		for slot, b := range [][]byte{two, one} {
			if spot, is := x.packed(chunk{sum, b}); !is || spot != (api.Spot{Bin: 7, Slot: slot}) {
				t.Errorf("%s, with the sum %x: %v, %v", b, sum[:2], spot, is)
			}
		}
		for _, b := range [][]byte{more, []byte("on"), []byte("onE"), []byte("oneone"), {0}} {
			if spot, is := x.packed(chunk{sum, b}); is || spot != (api.Spot{}) {
				t.Errorf("%s, with the sum %x: %v, %v", b, sum[:2], spot, is)
			}
		}
	}
	for _, p := range []*pack.Packer{nil, packerOf(t, 3)} {
		if spot, is := (&session{packer: p, number: 3}).packed(chunk{digest.Sum(one), one}); is || spot != (api.Spot{}) {
			t.Errorf("a packer without chunks: %v, %v", spot, is)
		}
	}
}

// P19.3, B1: unlike chunks with one sum are packed each, and lie where their own bytes are. No two such are known, so the sum is set.
func TestChunksWithOneSum(t *testing.T) {
	v, e := New(api.Config{Sectors: 200, Area: 40, Tune: api.Tune{
		Cut: api.Cut{Min: 32, Avg: 32, Max: 160}, Seed: 5, Wide: 16, Seg: 8, Rate: 1, Bits: 1 << 14, Ways: 3, Hooks: 500, Each: 4, Cache: 16, Champs: 4,
	}})
	if e != api.OK {
		t.Fatal(e)
	}
	n := v.Do(api.Op{Do: api.Begin, Name: "a"}).N
	x := v.store.sessions[n]
	var stream [][]byte
	for _, letter := range []byte("abacbca") {
		b := bytes.Repeat([]byte{letter}, 40)
		stream = append(stream, b)
		x.waits = append(x.waits, chunk{digest.Sum([]byte("one sum")), b})
	}
	if a := v.Do(api.Op{Do: api.Commit, N: n}); a.Errno != api.OK {
		t.Fatal(a)
	}
	file, e := v.store.book.Get("a", 0)
	if e != api.OK || len(file.Refs) != len(stream) || len(v.Live()) != 3 {
		t.Fatal(e, file.Refs)
	}
	for i, slot := range []int{0, 1, 0, 2, 1, 2, 0} {
		r := file.Refs[i]
		b, e := v.store.shelf.Chunk(r.Bin, r.Slot)
		if e != api.OK || r.Slot != slot || !bytes.Equal(b, stream[i]) {
			t.Errorf("the chunk %d lies in the slot %d: %q, %d", i, r.Slot, b, e)
		}
	}
}
