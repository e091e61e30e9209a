package vault_test

import (
	"bytes"
	"fmt"
	"slices"
	"testing"

	"aumbry/api"
	"aumbry/vault"
)

// halves is an appliance with containers of which these percent are alive: 0, 25, 50, 75, 100. Each has four chunks of 40 bytes.
func halves(t *testing.T) *vault.Vault {
	t.Helper()
	c := layout()
	c.Tune.Cut = api.Cut{Min: 40, Avg: 1, Max: 40}
	v := appliance(t, c)
	for i := range 5 {
		b := noise(uint32(i), 160)
		put(t, v, fmt.Sprint("all", i), b)
		put(t, v, fmt.Sprint("some", i), b[:40*i])
		done(t, v, api.Op{Do: api.Delete, Name: fmt.Sprint("all", i)})
	}
	if len(v.Places()) != 5 {
		t.Fatal(v.Places())
	}
	return v
}

func wantSome(t *testing.T, v *vault.Vault) {
	t.Helper()
	for i := range 5 {
		wantRead(t, v, fmt.Sprint("some", i), noise(uint32(i), 160)[:40*i])
	}
}

func numbers(l []api.Place) []int {
	var n []int
	for _, p := range l {
		n = append(n, p.Bin)
	}
	return n
}

// P19.5, example 8: containers of which less than so much is alive are copied forward, and free; N is how many.
func TestCleanPercent(t *testing.T) {
	for percent, want := range map[int][]int{0: {0, 1, 2, 3, 4}, 1: {1, 2, 3, 4}, 25: {1, 2, 3, 4}, 26: {2, 3, 4, 5}, 50: {2, 3, 4, 5}, 51: {3, 4, 5}, 75: {3, 4, 5}, 76: {4, 5}, 100: {4, 5}} {
		v := halves(t)
		a := done(t, v, api.Op{Do: api.Clean, N: percent})
		gone := 0
		for i := range 4 {
			if 25*i < percent {
				gone++
			}
		}
		if !sameAnswer(a, api.Answer{N: gone}) || !slices.Equal(numbers(v.Places()), want) {
			t.Fatal(percent, a, v.Places())
		}
		wantSome(t, v)
		if a := done(t, v, api.Op{Do: api.Scrub}); a.N != 0 {
			t.Fatal(a)
		}
		done(t, v, api.Op{Do: api.Fall, Crash: api.Crash{Torn: -1}})
		done(t, v, api.Op{Do: api.Mount})
		wantSome(t, v)
	}
	for _, n := range []int{-1, 101} {
		v := halves(t)
		refuses(t, v, api.Op{Do: api.Clean, N: n}, api.ErrArg)
		if len(v.Places()) != 5 {
			t.Fatal(v.Places())
		}
	}
}

// P19.5: behind a Clean the index finds chunks where they are then, and nothing of what is gone.
func TestCleanIndex(t *testing.T) {
	v := halves(t)
	entries, live := v.Entries(), len(v.Live())
	done(t, v, api.Op{Do: api.Clean, N: 100})
	// Of 20 chunks that were known, each a hook and in the cache, those are left that are alive.
	if v.Entries() != entries-2*(20-live) {
		t.Fatal(v.Entries(), entries, live)
	}
	used := v.Used()
	for i := range 5 {
		put(t, v, fmt.Sprint("again", i), noise(uint32(i), 160)[:40*i])
	}
	if v.Used() != used {
		t.Fatal("not found again")
	}
	put(t, v, "whole", noise(0, 160))
	if v.Used() == used {
		t.Fatal("what is gone is found")
	}
}

// P19.5, example 8: sessions that go on have their chunks where they are then.
func TestCleanWithSessions(t *testing.T) {
	v := halves(t)
	b := noise(0, 160)
	n := begun(t, v, "open", slices.Concat(b, noise(1, 160), noise(2, 160), noise(30, 2400)))
	if a := done(t, v, api.Op{Do: api.Clean, N: 100}); a.N != 1 {
		t.Fatal("what a session has is live", a)
	}
	wantSome(t, v)
	done(t, v, api.Op{Do: api.Abort, N: n})
	if a := done(t, v, api.Op{Do: api.Clean, N: 100}); a.N != 3 {
		t.Fatal(a, v.Places())
	}
	v = halves(t)
	n = begun(t, v, "open", slices.Concat(b[:80], noise(1, 160)[80:], noise(31, 400)))
	if a := done(t, v, api.Op{Do: api.Clean, N: 100}); a.N != 4 {
		t.Fatal(a, v.Places())
	}
	if a := done(t, v, api.Op{Do: api.Scrub}); a.N != 0 {
		t.Fatal("a session's chunks", a)
	}
	done(t, v, api.Op{Do: api.Commit, N: n})
	wantSome(t, v)
	wantRead(t, v, "open", slices.Concat(b[:80], noise(1, 160)[80:], noise(31, 400)))
}

// P19.5: one whose live chunks can't all be told is left out, the others are cleaned; a dead chunk may have rotted.
func TestCleanLeavesOut(t *testing.T) {
	v := halves(t)
	for _, r := range v.Live() {
		if r.Bin == 2 {
			rotAt(t, v, r)
			break
		}
	}
	if a := done(t, v, api.Op{Do: api.Clean, N: 100}); a.N != 3 || !slices.Equal(numbers(v.Places()), []int{2, 4, 5}) {
		t.Fatal(a, v.Places())
	}
	refuses(t, v, api.Op{Do: api.Read, Name: "some2"}, api.ErrRot)
	wantRead(t, v, "some3", noise(3, 160)[:120])
	v = halves(t)
	for _, r := range v.Live() {
		if r.Bin == 3 && r.Slot == 2 {
			r.Slot = 3
			rotAt(t, v, r)
			break
		}
	}
	done(t, v, api.Op{Do: api.Rot, N: placeOf(t, v, 1).Run.At})
	if a := done(t, v, api.Op{Do: api.Clean, N: 100}); a.N < 2 || slices.Contains(numbers(v.Places()), 0) || !slices.Contains(numbers(v.Places()), 1) {
		t.Fatal("a head that rotted", a, v.Places())
	}
}

// P19.5: as many as fit into one packer go together: no more, and no fewer.
func TestCleanTogether(t *testing.T) {
	c := layout()
	c.Tune.Cut, c.Tune.Wide, c.Tune.Cache = api.Cut{Min: 40, Avg: 1, Max: 40}, 8, 64
	v := appliance(t, c)
	// Each container has 12 chunks, of which 5 are alive; 12 fit into one: 128 + 12 * 74 = 1016.
	for i := range 7 {
		b := noise(uint32(i), 480)
		put(t, v, fmt.Sprint("all", i), b)
		put(t, v, fmt.Sprint("some", i), b[:200])
		done(t, v, api.Op{Do: api.Delete, Name: fmt.Sprint("all", i)})
	}
	if len(v.Places()) != 7 {
		t.Fatal(v.Places())
	}
	if a := done(t, v, api.Op{Do: api.Clean, N: 42}); a.N != 7 || len(v.Places()) != 4 {
		t.Fatal(a, v.Places())
	}
	for i := range 7 {
		wantRead(t, v, fmt.Sprint("some", i), noise(uint32(i), 480)[:200])
	}
	// Two of five chunks go together, from the least number on; each new one takes the least number that is free.
	for i, want := range []int{7, 7, 0, 0, 1, 1, 2} {
		for _, r := range v.Live() {
			if b := noise(uint32(i), 480); r.Bin != want && bytes.Equal(r.Sum[:], sumOf(b[:40])) {
				t.Fatal(i, r.Bin, want)
			}
		}
	}
}

// P19.5: where no two fit into one packer, each goes alone, and none is left out.
func TestCleanAlone(t *testing.T) {
	c := layout()
	c.Tune.Cut, c.Tune.Wide = api.Cut{Min: 40, Avg: 1, Max: 40}, 8
	v := appliance(t, c)
	for i := range 4 {
		b := noise(uint32(i), 480)
		put(t, v, fmt.Sprint("all", i), b)
		put(t, v, fmt.Sprint("some", i), b[:360])
		done(t, v, api.Op{Do: api.Delete, Name: fmt.Sprint("all", i)})
	}
	if a := done(t, v, api.Op{Do: api.Clean, N: 76}); a.N != 4 || !slices.Equal(numbers(v.Places()), []int{0, 1, 2, 4}) || v.Used() != 4*7 {
		t.Fatal(a, v.Places())
	}
	for i := range 4 {
		wantRead(t, v, fmt.Sprint("some", i), noise(uint32(i), 480)[:360])
	}
}

// P19.5: a transaction that is refused frees the container that was sealed for it.
func TestCleanRefused(t *testing.T) {
	v := halves(t)
	used, places, live := v.Used(), v.Places(), v.Live()
	for v.Do(api.Op{Do: api.Tick}).Errno == api.OK {
		// No epoch is left by which the journal could be renewed, when its area is full.
		done(t, v, api.Op{Do: api.Rot, N: 3, Bytes: bytes.Repeat([]byte{255}, 6)})
	}
	refuses(t, v, api.Op{Do: api.Clean, N: 100}, api.ErrLimit)
	if v.Used() != used || !slices.Equal(v.Places(), places) || !slices.Equal(v.Live(), live) {
		t.Fatal(v.Used(), used, v.Places())
	}
	done(t, v, api.Op{Do: api.Rot, N: 3})
	if a := done(t, v, api.Op{Do: api.Clean, N: 100}); a.N != 4 {
		t.Fatal(a)
	}
	wantSome(t, v)
}

// P19.5: what all that would be so takes at most may be too much for a Clean, as it grows when what snapshots hold is dropped.
func TestCleanWithoutJournal(t *testing.T) {
	c := layout()
	c.Area, c.Sectors = 12, 200
	c.Tune.Cut = api.Cut{Min: 40, Avg: 1, Max: 40}
	met := 0
	for files := range 14 {
		v, p := appliance(t, c), newPlain(c)
		both := func(o api.Op) api.Answer {
			t.Helper()
			a, want := v.Do(o), p.do(o)
			if !sameAnswer(a, want) {
				t.Fatalf("%+v: %+v, not %+v", o, a, want)
			}
			likePlain(t, v, p, 0, o)
			return a
		}
		file := func(name string, b []byte) {
			t.Helper()
			n := both(api.Op{Do: api.Begin, Name: name}).N
			both(api.Op{Do: api.Write, N: n, Bytes: b})
			both(api.Op{Do: api.Commit, N: n})
		}
		file("all", noise(1, 160))
		file("some", noise(1, 160)[:40])
		both(api.Op{Do: api.Delete, Name: "all"})
		for i := range files {
			file(fmt.Sprintf("%025d", i), nil)
		}
		both(api.Op{Do: api.Snap, Shot: "s"})
		for i := range files {
			both(api.Op{Do: api.Delete, Name: fmt.Sprintf("%025d", i)})
		}
		if a := both(api.Op{Do: api.Clean, N: 100}); a.Errno == api.ErrSpace {
			met++
		}
	}
	if met == 0 || met == 14 {
		t.Fatal(met)
	}
}

// P19.5: 200 of them at most go together; the first error ends it, and what is done stays done.
func TestCleanMany(t *testing.T) {
	c := layout()
	c.Area, c.Sectors = 600, 4096
	made := func() *vault.Vault {
		v := appliance(t, c)
		for i := range 210 {
			put(t, v, fmt.Sprint("f", i%60), noise(uint32(i), 60))
		}
		for i := range 210 {
			done(t, v, api.Op{Do: api.Delete, Name: fmt.Sprint("f", i%60)})
		}
		if len(v.Places()) != 210 {
			t.Fatal(len(v.Places()))
		}
		return v
	}
	if a := done(t, made(), api.Op{Do: api.Clean, N: 100}); a.N != 210 {
		t.Fatal(a)
	}
	met := map[int]int{}
	for trip := 1; ; trip++ {
		v := made()
		done(t, v, api.Op{Do: api.Trip, N: trip})
		a := v.Do(api.Op{Do: api.Clean, N: 1})
		if a.Errno == api.OK {
			break
		}
		if !sameAnswer(a, api.Answer{Errno: api.ErrDown}) {
			t.Fatal(a)
		}
		left := len(v.Places())
		done(t, v, api.Op{Do: api.Fall, Crash: api.Crash{Torn: -1}})
		done(t, v, api.Op{Do: api.Mount})
		if len(v.Places()) != left {
			t.Fatal(trip, len(v.Places()), left)
		}
		met[left]++
	}
	// A flush, five sectors of a record with 200 facts, a flush; a flush, a sector, a flush.
	if len(met) != 2 || met[210] < 5 || met[10] != 3 {
		t.Fatal(met)
	}
}

// P19.5: a Clean that finds no room for what is alive is ErrSpace, and nothing is changed by the step that found none.
func TestCleanWithoutRoom(t *testing.T) {
	c := layout()
	c.Tune.Cut = api.Cut{Min: 40, Avg: 1, Max: 40}
	c.Sectors = 2 + 2*c.Area + 16
	v := appliance(t, c)
	b := noise(1, 480) // 128 + 12 * 74: eight sectors
	put(t, v, "all", b)
	put(t, v, "some", b[:440])
	put(t, v, "other", noise(2, 400)) // seven
	done(t, v, api.Op{Do: api.Delete, Name: "all"})
	places, live := v.Places(), v.Live()
	if v.Used() != 15 {
		t.Fatal(v.Used())
	}
	refuses(t, v, api.Op{Do: api.Clean, N: 100}, api.ErrSpace)
	if !slices.Equal(v.Places(), places) || !slices.Equal(v.Live(), live) || v.Used() != 15 {
		t.Fatal(v.Places(), v.Used())
	}
	wantRead(t, v, "some", b[:440])
	done(t, v, api.Op{Do: api.Delete, Name: "other"})
	done(t, v, api.Op{Do: api.Delete, Name: "some"})
	if a := done(t, v, api.Op{Do: api.Clean, N: 100}); a.N != 2 || v.Used() != 0 {
		t.Fatal(a, v.Used())
	}
}
