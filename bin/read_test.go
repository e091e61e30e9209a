package bin_test

import (
	"bytes"
	"crypto/sha256"
	"encoding/binary"
	"fmt"
	"hash/crc32"
	"maps"
	"math/rand"
	"slices"
	"testing"

	"aumbry/api"
)

// rot lays bytes into the sectors from at on.
func (b bench) rot(t *testing.T, at int, bytes []byte) {
	t.Helper()
	for i, sector := range slices.Collect(slices.Chunk(bytes, 128)) {
		wantErrno(t, "Rot", b.d.Rot(at+i, sector), api.OK)
	}
}

// P12.3: ErrGone is named ahead of a Read's error, that ahead of ErrRot.
func TestReadErrors(t *testing.T) {
	b := made(t, 10, 0, 40)
	b.seal(t, 1, "one")
	for _, p := range []api.Place{place(2, 9, 2), place(3, 20, 2), place(4, 4, 2)} {
		wantErrno(t, "Claim", b.s.Claim(p), api.OK)
	}
	b.wantNone(t, 2, api.ErrArg)
	b.wantNone(t, 3, api.ErrArg)
	b.wantNone(t, 4, api.ErrRot)
	b.wantNone(t, 5, api.ErrGone)
	b.cutPower(t)
	for id := 1; id <= 4; id++ {
		b.wantNone(t, id, api.ErrDown)
	}
	b.wantNone(t, 5, api.ErrGone)
	b.wantNone(t, -1, api.ErrGone)
}

// P12.3: that a container's head can be read plays no part where a sector of it can't: all are read first.
func TestReadAllSectors(t *testing.T) {
	b := made(t, 5, 0, 40)
	b.rot(t, 3, packed(t, 1, "x").Bytes())
	wantErrno(t, "Claim", b.s.Claim(place(1, 3, 3)), api.OK)
	b.wantNone(t, 1, api.ErrArg)
	b.s.Free(1)
	wantErrno(t, "Claim", b.s.Claim(place(1, 3, 2)), api.OK)
	b.wantTold(t, 1, 2, "x")
}

// crcAt sets the check sum at a place right for the bytes from from to to - 1.
func crcAt(b []byte, at, from, to int) {
	binary.BigEndian.PutUint32(b[at:], crc32.Checksum(b[from:to], crc32.MakeTable(crc32.Castagnoli)))
}

// P12.3: each error of pack's Parse is ErrRot.
func TestHeadRots(t *testing.T) {
	good := packed(t, 6, "one", "two").Bytes()
	for name, spoil := range map[string]func(b []byte){
		"zeros":           func(b []byte) { clear(b) },
		"the text":        func(b []byte) { b[0]++ },
		"its number":      func(b []byte) { b[7]++ },
		"the head's sum":  func(b []byte) { b[21]++ },
		"behind the 22":   func(b []byte) { b[127] = 1 },
		"a great number":  func(b []byte) { b[4] = 1; crcAt(b, 18, 0, 18) },
		"many chunks":     func(b []byte) { b[8] = 1; crcAt(b, 18, 0, 18) },
		"ErrShort":        func(b []byte) { b[9] = 60; crcAt(b, 18, 0, 18) },
		"the table's sum": func(b []byte) { b[14]++; crcAt(b, 18, 0, 18) },
		"the table":       func(b []byte) { b[134]++ },
		"no length":       func(b []byte) { b[134+33] = 0; crcAt(b, 14, 134, 202); crcAt(b, 18, 0, 18) },
		"another length":  func(b []byte) { b[134+33] = 4; crcAt(b, 14, 134, 202); crcAt(b, 18, 0, 18) },
		"another number":  func(b []byte) { b[7] = 7; crcAt(b, 18, 0, 18) },
		"number 0":        func(b []byte) { b[7] = 0; crcAt(b, 18, 0, 18) },
	} {
		b := made(t, 12, 0, 12)
		b.seal(t, 6, "one", "two")
		b.seal(t, 8, "other")
		bad := slices.Clone(good)
		spoil(bad)
		b.rot(t, 0, bad)
		if said, e := b.s.Head(6); e != api.ErrRot {
			t.Errorf("%s: %v, %d", name, said, e)
		}
		b.wantNone(t, 6, api.ErrRot)
		b.wantTold(t, 8, 2, "other")
		b.wantPlaces(t, place(6, 0, 2), place(8, 2, 2))
		b.rot(t, 0, good)
		b.wantTold(t, 6, 2, "one", "two")
	}
}

// P12.3: what rots of a chunk, or behind the table, is no matter of other chunks.
func TestChunkRots(t *testing.T) {
	b := made(t, 20, 3, 20)
	chunks := []string{"one", string(bytes.Repeat([]byte("z"), 300)), "three"}
	p := packed(t, 4, chunks...)
	b.s.Seal(p)
	for at := 128; at < 128+308; at++ {
		bad := p.Bytes()
		bad[at] ^= 0x40
		b.rot(t, 3, bad)
		if said, e := b.s.Head(4); e != api.OK || len(said.Slots) != 3 {
			t.Fatal("Head", e)
		}
		for slot, span := range [][2]int{{128, 131}, {131, 431}, {431, 436}} {
			want, errno := chunks[slot], api.OK
			if at >= span[0] && at < span[1] {
				want, errno = "", api.ErrRot
			}
			if c, e := b.s.Chunk(4, slot); string(c) != want || e != errno {
				t.Fatalf("the byte %d rots: Chunk(4, %d): %q, %d", at, slot, c, e)
			}
		}
		b.wantNoChunk(t, 4, 3, api.ErrGone)
		b.wantNoChunk(t, 4, -1, api.ErrGone)
	}
	bad := p.Bytes()
	bad[len(bad)-1] = 9
	b.rot(t, 3, bad)
	b.wantTold(t, 4, 5, chunks...)
}

// P12.3: a run that is longer than the container takes tells it too; one that is shorter does not.
func TestOtherRuns(t *testing.T) {
	b := made(t, 80, 0, 80)
	p := packed(t, 4, wide(5))
	for _, n := range []int{2, 4, 5, 6, 64} {
		b.rot(t, 10, p.Bytes())
		wantErrno(t, "Claim", b.s.Claim(place(4, 10, n)), api.OK)
		if n < 5 {
			b.wantNone(t, 4, api.ErrRot)
		} else {
			b.wantTold(t, 4, 5, wide(5))
		}
		if b.s.Used() != n {
			t.Error("Used", b.s.Used())
		}
		b.s.Free(4)
	}
}

// P12.3: a container that was made by no Seal may have no chunk, or be written over by another one.
func TestWhatLiesThere(t *testing.T) {
	b := made(t, 20, 0, 20)
	b.rot(t, 6, packed(t, 2).Bytes())
	wantErrno(t, "Claim", b.s.Claim(place(2, 6, 2)), api.OK)
	b.wantTold(t, 2, 1)
	b.rot(t, 6, packed(t, 2, "a", "b").Bytes())
	b.wantTold(t, 2, 2, "a", "b")
	b.rot(t, 6, packed(t, 3, "a", "b").Bytes())
	b.wantNone(t, 2, api.ErrRot)
	// Written, but not flushed, is there too.
	for i, sector := range slices.Collect(slices.Chunk(packed(t, 2, "c").Bytes(), 128)) {
		b.d.Write(6+i, sector)
	}
	b.wantTold(t, 2, 2, "c")
}

// anyChunks are some chunks of any bytes.
func anyChunks(r *rand.Rand) []string {
	var l []string
	for range 1 + r.Intn(6) {
		c := make([]byte, 1+r.Intn(300))
		r.Read(c)
		l = append(l, string(c))
	}
	return l
}

// kept is what a container was sealed with.
type kept struct {
	place  api.Place
	chunks []string
}

func (b bench) wantAll(t *testing.T, all map[int]kept) {
	t.Helper()
	var places []api.Place
	for _, id := range slices.Sorted(maps.Keys(all)) {
		k := all[id]
		places = append(places, k.place)
		b.wantTold(t, id, k.place.Run.N, k.chunks...)
	}
	b.wantPlaces(t, places...)
	if b.m.Free() != 96-b.s.Used() {
		t.Errorf("%d are free, %d used", b.m.Free(), b.s.Used())
	}
	if t.Failed() {
		t.FailNow()
	}
}

// P12.1 to P12.4 (B1): any steps, against a map of what was sealed.
func TestSteps(t *testing.T) {
	for seed := range int64(30) {
		r := rand.New(rand.NewSource(seed))
		b, all := made(t, 100, 4, 100), map[int]kept{}
		for range 120 {
			id := r.Intn(20)
			_, known := all[id]
			switch r.Intn(8) {
			case 0, 1, 2:
				want := api.OK
				if !known {
					want = api.ErrGone
				}
				wantErrno(t, "Free", b.s.Free(id), want)
				delete(all, id)
			case 3:
				b.d.Flush()
			default:
				chunks := anyChunks(r)
				p := packed(t, id, chunks...)
				n := len(p.Bytes()) / 128
				want := api.OK
				if known {
					want = api.ErrKnown
				} else if b.m.Most() < n {
					want = api.ErrSpace
				}
				at, e := b.s.Seal(p)
				wantErrno(t, "Seal", e, want)
				if want == api.OK {
					all[id] = kept{at, chunks}
				}
			}
			b.wantAll(t, all)
		}
	}
}

// P12.5 (B3): what was sealed and flushed is told behind any crash, by a shelf that claims it, whatever was sealed, freed or broken off behind the flush. P12.6 (B2): of the others, too, a chunk that is told is one that was sealed there.
func TestOutlivesCrashes(t *testing.T) {
	for seed := range int64(300) {
		r := rand.New(rand.NewSource(seed))
		b, sure, later := made(t, 100, 4, 100), map[int]kept{}, map[int]kept{}
		for id := range 3 + r.Intn(3) {
			chunks := anyChunks(r)
			sure[id] = kept{b.seal(t, id, chunks...), chunks}
		}
		b.d.Flush()
		if r.Intn(2) == 0 {
			b.d.Trip(1 + r.Intn(25))
		}
		for id := 10; id < 10+r.Intn(4); id++ {
			chunks := anyChunks(r)
			if at, e := b.s.Seal(packed(t, id, chunks...)); e == api.OK {
				later[id] = kept{at, chunks}
			}
		}
		dirty := len(b.d.Dirty())
		crash := api.Crash{Torn: r.Intn(dirty+2) - 1, At: r.Intn(130) - 1}
		for range dirty {
			crash.Keep = append(crash.Keep, r.Intn(2) == 0)
		}
		b.d.Crash(crash)
		after := on(t, b.d, 4, 100)
		for _, id := range slices.Backward(slices.Sorted(maps.Keys(sure))) {
			wantErrno(t, "Claim", after.s.Claim(sure[id].place), api.OK)
		}
		after.wantAll(t, sure)
		for _, k := range later {
			wantErrno(t, "Claim", after.s.Claim(k.place), api.OK)
			after.wantSealedOrRot(t, k)
		}
	}
}

// wantSealedOrRot: each chunk is what was sealed, or ErrRot.
func (b bench) wantSealedOrRot(t *testing.T, k kept) {
	t.Helper()
	for slot, want := range k.chunks {
		c, e := b.s.Chunk(k.place.Bin, slot)
		if e == api.OK && string(c) != want || e != api.OK && (e != api.ErrRot || len(c) != 0) {
			t.Fatalf("Chunk(%d, %d): %d bytes, %d", k.place.Bin, slot, len(c), e)
		}
	}
}

// P12.6 (B2): a chunk that is told has its Sum, whatever rots.
func TestToldHasItsSum(t *testing.T) {
	met := map[api.Errno]int{}
	for seed := range int64(400) {
		r := rand.New(rand.NewSource(seed))
		b := made(t, 40, 0, 40)
		k := kept{chunks: anyChunks(r)}
		k.place = b.seal(t, 3, k.chunks...)
		for range 1 + r.Intn(3) {
			i := r.Intn(k.place.Run.N)
			sector, _ := b.d.Read(i)
			for range 1 + r.Intn(3) {
				sector[r.Intn(128)] = byte(r.Intn(256))
			}
			b.d.Rot(i, sector)
		}
		b.wantSealedOrRot(t, k)
		said, _ := b.s.Head(3)
		for slot := range k.chunks {
			c, e := b.s.Chunk(3, slot)
			met[e]++
			if e == api.OK && sha256.Sum256(c) != said.Slots[slot].Sum {
				t.Fatal("another Sum", fmt.Sprintf("%x", c))
			}
		}
	}
	if met[api.OK] < 100 || met[api.ErrRot] < 100 {
		t.Error("met", met)
	}
}
