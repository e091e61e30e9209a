package ingest_test

import (
	"math/rand"
	"slices"
	"testing"

	"aumbry/api"
	"aumbry/ingest"
)

// wantLike: an index tells what the plain one does, of as many numbers: where each is, and which containers its hooks name, one by one, as each that is asked for is forgotten. Asked are forks, for asking uses what is held.
func wantLike(t *testing.T, x *ingest.Index, p *plain, numbers int) {
	t.Helper()
	if x.Entries() != p.size() {
		t.Fatalf("entries: %d; want %d", x.Entries(), p.size())
	}
	for n := range numbers {
		y, q, s, r := x.Fork(), p.fork(), &store{}, &store{}
		for more := true; more; {
			ahead := len(r.asked)
			got, want := y.Seek(sums(n), s.head), q.seek(sums(n), r.head)
			if !slices.Equal(got, want) || !slices.Equal(s.asked, r.asked) {
				t.Fatalf("%d: guessed %v, asked for %v; want %v, %v", n, got, s.asked, want, r.asked)
			}
			more = len(r.asked) > ahead
		}
	}
}

// fill has other containers, without sums, take all room of the cache.
func fill(t *testing.T, x *ingest.Index, tune api.Tune) {
	t.Helper()
	for i := range tune.Cache {
		learn(t, x, 4000+i)
	}
}

// P17.3: champions that the cache has not are asked for, in the order of choice, and put into it.
func TestSeekChampions(t *testing.T) {
	tune := usual()
	x, s := made(t, tune), &store{has: map[int][]api.Sum{1: sums(10, 11, 12), 2: sums(20, 10), 3: sums(30, 20)}}
	learn(t, x, 1, 10, 11)
	learn(t, x, 2, 20, 10)
	learn(t, x, 3, 30, 20)
	fill(t, x, tune)
	// 10: 2, 1. 11: 1. 20: 3, 2. 30: 3. Three stands in two lists, as one and two do, and is the greatest; then one.
	wantGuesses(t, x.Seek(sums(10, 11, 20, 30, 99), s.head), at(1, 0), at(1, 1), at(3, 1), at(3, 0), nowhere)
	s.wantAsked(t, 3, 1)
	// They are in the cache by now.
	wantGuesses(t, x.Seek(sums(11, 30), s.head), at(1, 1), at(3, 0))
	s.wantAsked(t)
}

// P17.3: Champs at most.
func TestSeekFewChampions(t *testing.T) {
	for champs := 1; champs <= api.MaxChamp; champs++ {
		tune := usual()
		tune.Champs, tune.Cache = champs, 10
		x, s := made(t, tune), &store{has: map[int][]api.Sum{}}
		var l []api.Sum
		for bin := range 10 {
			learn(t, x, bin, bin)
			s.has[bin] = sums(bin)
			l = append(l, sum(bin))
		}
		fill(t, x, tune)
		want, asked := make([]api.Guess, 10), []int(nil)
		for i := range champs {
			want[9-i] = at(9-i, 0)
			asked = append(asked, 9-i)
		}
		wantGuesses(t, x.Seek(l, s.head), want...)
		s.wantAsked(t, asked...)
	}
}

// P17.3: a champion that the cache has is not asked for, nor put, nor used.
func TestSeekRemembered(t *testing.T) {
	tune := usual()
	tune.Cache = 2
	x, s := made(t, tune), &store{has: map[int][]api.Sum{1: sums(99), 2: sums(20)}}
	learn(t, x, 1, 10)
	learn(t, x, 2, 20)
	wantGuesses(t, x.Seek(sums(10), s.head), at(1, 0))
	s.wantAsked(t)
	wantGuesses(t, x.Seek(sums(20), s.head), at(2, 0))
	// 1 was used longest ago; it is a champion of this, and its sum is not sought.
	hooked := made(t, tune)
	learn(t, hooked, 1, 10)
	learn(t, hooked, 1, 11)
	learn(t, hooked, 2, 20)
	wantGuesses(t, hooked.Seek(sums(10), s.head), nowhere)
	s.wantAsked(t)
	learn(t, hooked, 3, 30)
	wantGuesses(t, hooked.Seek(sums(20, 30), nil), at(2, 0), at(3, 0))
	wantGuesses(t, hooked.Seek(sums(11), nil), nowhere)
}

// P17.3: whether the cache has a champion is asked in its turn: one ahead of it may have taken its room.
func TestSeekTurn(t *testing.T) {
	tune := usual()
	tune.Cache = 1
	x, s := made(t, tune), &store{has: map[int][]api.Sum{1: sums(10), 2: sums(20)}}
	learn(t, x, 2, 20)
	learn(t, x, 1, 10)
	wantGuesses(t, x.Seek(sums(10, 20), s.head), at(1, 0), nowhere)
	s.wantAsked(t, 2, 1)
}

// P17.3: of a container that head has not, table and cache know nothing any more.
func TestSeekGone(t *testing.T) {
	tune := usual()
	x, s := made(t, tune), &store{has: map[int][]api.Sum{1: sums(10, 11)}}
	learn(t, x, 1, 10, 11)
	learn(t, x, 2, 10, 20, 21)
	fill(t, x, tune)
	entries := x.Entries()
	wantGuesses(t, x.Seek(sums(20, 10), s.head), nowhere, nowhere)
	s.wantAsked(t, 2)
	// Of its entries that of 10 stays, as 1 has it.
	if x.Entries() != entries-2 {
		t.Errorf("entries: %d; want %d", x.Entries(), entries-2)
	}
	wantGuesses(t, x.Seek(sums(20, 21), s.head), nowhere, nowhere)
	s.wantAsked(t)
	wantGuesses(t, x.Seek(sums(10), s.head), at(1, 0))
	s.wantAsked(t, 1)
	// Sums beside a false play no part.
	wantGuesses(t, made1(t, tune, 5, 50).Seek(sums(50), func(int) ([]api.Sum, bool) { return sums(50), false }), nowhere)
}

// made1 is an index that learnt a container with one sum, which the cache has no more.
func made1(t *testing.T, tune api.Tune, bin, n int) *ingest.Index {
	t.Helper()
	x := made(t, tune)
	learn(t, x, bin, n)
	fill(t, x, tune)
	return x
}

// P17.3: without head nothing is asked, and nothing forgotten.
func TestSeekWithoutHead(t *testing.T) {
	x, s := made1(t, usual(), 5, 50), &store{has: map[int][]api.Sum{5: sums(49, 50)}}
	entries := x.Entries()
	wantGuesses(t, x.Seek(sums(50), nil), nowhere)
	if x.Entries() != entries {
		t.Error("entries", x.Entries())
	}
	wantGuesses(t, x.Seek(sums(50), s.head), at(5, 1))
	s.wantAsked(t, 5)
}

// P17.3: more sums than a container may have are put nowhere, and it is not forgotten; as many as it may have are.
func TestSeekTooMany(t *testing.T) {
	x, s := made1(t, usual(), 5, 50), &store{}
	entries := x.Entries()
	for _, n := range []int{65, 66, 1000} {
		s.has = map[int][]api.Sum{5: append(sums(50), span(100, n-1)...)}
		wantGuesses(t, x.Seek(sums(50), s.head), nowhere)
		s.wantAsked(t, 5)
		if x.Entries() != entries {
			t.Error("entries", x.Entries())
		}
	}
	s.has = map[int][]api.Sum{5: append(span(100, 63), sum(50))}
	wantGuesses(t, x.Seek(sums(50), s.head), at(5, 63))
	s.wantAsked(t, 5)
	if x.Entries() != entries+64 {
		t.Error("entries", x.Entries())
	}
	// None at all is put, too.
	y := made1(t, usual(), 5, 50)
	s.has = map[int][]api.Sum{5: nil}
	for range 2 {
		wantGuesses(t, y.Seek(sums(50), s.head), nowhere)
	}
	s.wantAsked(t, 5)
}

// P17.3: a sum that head tells, but that was not learnt, the summary has not: it is not guessed, and no hook.
func TestSeekSummary(t *testing.T) {
	tune := usual()
	x, s := made1(t, tune, 5, 50), &store{has: map[int][]api.Sum{5: sums(51, 50)}}
	wantGuesses(t, x.Seek(sums(51, 50, 51), s.head), nowhere, at(5, 1), nowhere)
	s.wantAsked(t, 5)
	wantGuesses(t, x.Seek(sums(51), s.head), nowhere)
	// Of one bit, all are had once one was learnt.
	tune.Bits, tune.Ways = 1, 1
	y := made(t, tune)
	wantGuesses(t, y.Seek(sums(51), s.head), nowhere)
	learn(t, y, 5, 50)
	fill(t, y, tune)
	wantGuesses(t, y.Seek(sums(51, 50), s.head), at(5, 0), at(5, 1))
	s.wantAsked(t, 5)
}

// P17.3: a hook that the summary has not is not looked for: the table is not asked, so that no entry is used.
func TestSeekUsesEntries(t *testing.T) {
	tune := usual()
	tune.Hooks = 3
	x, s := made(t, tune), &store{}
	learn(t, x, 1, 10)
	learn(t, x, 2, 20)
	learn(t, x, 3, 30)
	// In order: 20 is used last, and 30 longest ago.
	x.Seek(sums(10, 99, 20), nil)
	learn(t, x, 4, 40)
	forgetAll := func(n int) []int {
		s.asked = nil
		y := x.Fork()
		for bin := range 5 {
			y.Learn(4000+bin, nil)
		}
		y.Seek(sums(n), s.head)
		return s.asked
	}
	if l := forgetAll(30); len(l) != 0 {
		t.Error("30 was used", l)
	}
	learn(t, x, 5, 50)
	if l := forgetAll(10); len(l) != 0 {
		t.Error("10 was used behind 20", l)
	}
	if l := forgetAll(20); !slices.Equal(l, []int{2}) {
		t.Error("20 is gone", l)
	}
}

// P17.3: of MaxSeg sums at most: those behind are guessed nowhere, and are no hooks.
func TestSeekMany(t *testing.T) {
	tune := usual()
	tune.Rate = 256
	ordinary := func(n int) api.Sum { return api.Sum{3: 1, 5: byte(n), 11: byte(n), 20: byte(n >> 8)} }
	hook := api.Sum{2: 5, 7: 1}
	var l []api.Sum
	for n := range 64 {
		l = append(l, ordinary(n))
	}
	for _, place := range []int{0, 62, 63, 64, 65, 199} {
		x, s := made(t, tune), &store{has: map[int][]api.Sum{7: {hook}}}
		x.Learn(7, []api.Sum{hook})
		fill(t, x, tune)
		x.Learn(1, l)
		long := slices.Repeat(l, 4)[:200]
		long[place] = hook
		want := make([]api.Guess, 200)
		for i := range 64 {
			want[i] = at(1, i)
		}
		asked := []int(nil)
		if place < 64 {
			want[place] = at(7, 0)
			asked = []int{7}
		}
		wantGuesses(t, x.Seek(long, s.head), want...)
		s.wantAsked(t, asked...)
	}
}

// P17.3: of the hooks the first MaxHooks count, whether the summary has them or not.
func TestSeekManyHooks(t *testing.T) {
	tune := usual()
	for ahead := 14; ahead <= 17; ahead++ {
		x, s := made1(t, tune, 5, 50), &store{has: map[int][]api.Sum{5: sums(50)}}
		l := append(span(1000, ahead), sum(50))
		want := make([]api.Guess, ahead+1)
		asked := []int(nil)
		if ahead < api.MaxHooks {
			want[ahead] = at(5, 0)
			asked = []int{5}
		}
		wantGuesses(t, x.Seek(l, s.head), want...)
		s.wantAsked(t, asked...)
	}
	// One that comes again is one hook.
	x, s := made1(t, tune, 5, 50), &store{has: map[int][]api.Sum{5: sums(50)}}
	l := append(slices.Repeat(sums(1000), 60), sum(50))
	if got := x.Seek(l, s.head); got[60] != at(5, 0) {
		t.Error(got)
	}
}

// P17.3: sums are found in order, and to find a container is to use it.
func TestSeekFindsInOrder(t *testing.T) {
	tune := usual()
	tune.Cache = 3
	x := made(t, tune)
	learn(t, x, 1, 10, 77)
	learn(t, x, 2, 77, 20)
	wantGuesses(t, x.Seek(sums(77, 10, 77, 20, 77), nil), at(2, 0), at(1, 0), at(1, 1), at(2, 1), at(2, 0))
	wantGuesses(t, x.Seek(sums(10), nil), at(1, 0))
	learn(t, x, 3, 30)
	learn(t, x, 4, 40)
	wantGuesses(t, x.Seek(sums(10, 20), nil), at(1, 0), nowhere)
}

// P1: a head that panics; it has told of none, and the index goes on.
func TestSeekPanic(t *testing.T) {
	x, s := made1(t, usual(), 5, 50), &store{has: map[int][]api.Sum{5: sums(50)}}
	learn(t, x, 6, 60)
	var broken *store
	for _, head := range []func(int) ([]api.Sum, bool){
		func(int) ([]api.Sum, bool) { panic("head") },
		func(int) ([]api.Sum, bool) { panic(nil) },
		broken.head,
	} {
		y := x.Fork()
		wantGuesses(t, y.Seek(sums(50, 60), head), nowhere, at(6, 0))
		// Its one entry is gone: it is forgotten.
		if y.Entries() != x.Entries()-1 {
			t.Error("entries", y.Entries(), x.Entries())
		}
		wantGuesses(t, y.Seek(sums(50), s.head), nowhere)
		s.wantAsked(t)
		learn(t, y, 5, 50)
		wantGuesses(t, y.Seek(sums(50), nil), at(5, 0))
	}
}

// P1: a head that changes the index while it is asked.
func TestSeekInside(t *testing.T) {
	for _, change := range []func(*ingest.Index){
		func(x *ingest.Index) { x.Clear() },
		func(x *ingest.Index) { x.Forget(5) },
		func(x *ingest.Index) { x.Learn(5, sums(50, 51)) },
		func(x *ingest.Index) { x.Seek(sums(50), nil) },
	} {
		x := made1(t, usual(), 5, 50)
		x.Seek(sums(50, 51), func(int) ([]api.Sum, bool) {
			change(x)
			return sums(51, 50), true
		})
		learn(t, x, 6, 60)
		wantGuesses(t, x.Seek(sums(60), nil), at(6, 0))
		if x.Entries() > ingest.Most(usual()) {
			t.Error("too much", x.Entries())
		}
	}
}

// randomTune is a tuning under which little is remembered, so that all ways are met.
func randomTune(r *rand.Rand) api.Tune {
	t := usual()
	t.Rate, t.Bits, t.Ways = 1+r.Intn(3), []int{1, 7, 30, 64, 200, 5000}[r.Intn(6)], 1+r.Intn(4)
	t.Hooks, t.Each = 1+r.Intn(12), 1+r.Intn(4)
	t.Cache, t.Champs = 1+r.Intn(5), 1+r.Intn(5)
	return t
}

func randomSums(r *rand.Rand, most, numbers int) []api.Sum {
	var l []api.Sum
	for range r.Intn(most + 1) {
		l = append(l, sum(r.Intn(numbers)))
	}
	return l
}

// life is an index, the plain one, and what the containers have.
type life struct {
	x   *ingest.Index
	p   *plain
	has map[int][]api.Sum
}

const lifeNumbers, lifeBins = 30, 9

func (l *life) step(t *testing.T, r *rand.Rand) {
	t.Helper()
	bin := r.Intn(lifeBins)
	switch r.Intn(12) {
	case 0:
		forget(t, l.x, bin)
		l.p.forget(bin)
	case 1:
		if r.Intn(5) == 0 {
			l.x.Clear()
			l.p.clear()
		}
	case 2, 3, 4, 5:
		some := randomSums(r, 10, lifeNumbers)
		if r.Intn(20) == 0 {
			bin, some = r.Intn(3)*3000-1, span(0, 60+r.Intn(10))
		}
		if e, want := l.x.Learn(bin, some), l.p.learn(bin, some); e != want {
			t.Fatalf("Learn(%d): %d; want %d", bin, e, want)
		} else if e == api.OK {
			l.has[bin] = some
		}
	case 6:
		// What a container has is another one's by now, or it is gone, or rotten.
		delete(l.has, bin)
		if r.Intn(2) == 0 {
			l.has[bin] = randomSums(r, 10, lifeNumbers+5)
		} else if r.Intn(4) == 0 {
			l.has[bin] = span(0, 65)
		}
	default:
		l.seek(t, r)
	}
	wantLike(t, l.x, l.p, lifeNumbers+5)
}

func (l *life) seek(t *testing.T, r *rand.Rand) {
	t.Helper()
	some := randomSums(r, []int{3, 12, 90}[r.Intn(3)], lifeNumbers+5)
	if r.Intn(6) == 0 {
		if got, want := l.x.Seek(some, nil), l.p.seek(some, nil); !slices.Equal(got, want) {
			t.Fatalf("guessed %v; want %v", got, want)
		}
		return
	}
	s, q := &store{has: l.has}, &store{has: l.has}
	got, want := l.x.Seek(some, s.head), l.p.seek(some, q.head)
	if !slices.Equal(got, want) || !slices.Equal(s.asked, q.asked) {
		t.Fatalf("guessed %v, asked for %v; want %v, %v", got, s.asked, want, q.asked)
	}
}

// P17.1 to P17.4, P4: random lives against the chapter's words; a fork stands beside, and changes nothing.
func TestLives(t *testing.T) {
	for seed := range int64(150) {
		r := rand.New(rand.NewSource(seed))
		tune := randomTune(r)
		l := &life{made(t, tune), &plain{tune: tune}, map[int][]api.Sum{}}
		left, leftPlain := l.x.Fork(), l.p.fork()
		for range 60 {
			switch r.Intn(12) {
			case 0:
				left, leftPlain = l.x.Fork(), l.p.fork()
			case 1:
				l.x, left, l.p, leftPlain = left, l.x, leftPlain, l.p
			}
			l.step(t, r)
			if l.x.Entries() > ingest.Most(tune) {
				t.Fatal("entries", l.x.Entries())
			}
		}
		wantLike(t, left, leftPlain, lifeNumbers+5)
	}
}

// P17.4 (B4): Entries comes up to Most, and never above it.
func TestMostIsReached(t *testing.T) {
	for _, tune := range []api.Tune{usual(), {Cut: usual().Cut, Wide: 64, Seg: 64, Rate: 1, Bits: 1, Ways: 1, Hooks: 1, Each: 1, Cache: 1, Champs: 1}} {
		x, s := made(t, tune), &store{has: map[int][]api.Sum{}}
		for bin := range 40 {
			s.has[bin] = span(64*bin, 64)
			if x.Learn(bin, s.has[bin]) != api.OK || x.Entries() > ingest.Most(tune) {
				t.Fatal("learnt", bin, x.Entries())
			}
			x.Seek(span(32*bin, 64), s.head)
			if x.Entries() > ingest.Most(tune) {
				t.Fatal("sought", bin, x.Entries())
			}
		}
		if x.Entries() != ingest.Most(tune) {
			t.Errorf("%d entries of %d", x.Entries(), ingest.Most(tune))
		}
	}
}

// P17.5: what is guessed stood so in what was learnt, or told, last of that container.
func TestGuessStoodSo(t *testing.T) {
	r := rand.New(rand.NewSource(5))
	guessed := 0
	for range 40 {
		tune := randomTune(r)
		x, last := made(t, tune), map[int][]api.Sum{}
		head := func(bin int) ([]api.Sum, bool) {
			if r.Intn(4) == 0 {
				return nil, false
			}
			last[bin] = randomSums(r, 20, lifeNumbers)
			return last[bin], true
		}
		for range 60 {
			if bin, l := r.Intn(lifeBins), randomSums(r, 20, lifeNumbers); x.Learn(bin, l) == api.OK {
				last[bin] = l
			}
			l := randomSums(r, 20, lifeNumbers)
			for i, g := range x.Seek(l, head) {
				if !g.Is && g != nowhere {
					t.Fatal("a spot of none", g)
				}
				if g.Is {
					guessed++
				}
				if has := last[g.Spot.Bin]; g.Is && (g.Spot.Slot >= len(has) || has[g.Spot.Slot] != l[i]) {
					t.Fatalf("%v of %x", g, l[i])
				}
			}
		}
	}
	if guessed < 1000 {
		t.Error("guessed", guessed)
	}
}

// P17.6: the sums of the container that was learnt last are all found, unless it was forgotten. With a head the champions have room beside it.
func TestLearntLastIsFound(t *testing.T) {
	r := rand.New(rand.NewSource(6))
	for range 60 {
		tune := randomTune(r)
		x, s := made(t, tune), &store{has: map[int][]api.Sum{}}
		for range 30 {
			bin, l := r.Intn(lifeBins), randomSums(r, 64, 100)
			s.has[bin] = l
			if x.Learn(bin, l) != api.OK {
				t.Fatal("not learnt")
			}
			guesses := x.Fork().Seek(l, nil)
			if tune.Cache > tune.Champs {
				guesses = append(guesses, x.Fork().Seek(l, s.head)...)
			}
			if slices.ContainsFunc(guesses, func(g api.Guess) bool { return !g.Is }) {
				t.Fatal("not found", bin)
			}
			other := r.Intn(lifeBins)
			if other != bin {
				x.Forget(other)
				if slices.Contains(x.Fork().Seek(l, nil), nowhere) {
					t.Fatal("not found once another one was forgotten")
				}
			}
			x.Seek(randomSums(r, 20, 100), s.head)
		}
	}
}
