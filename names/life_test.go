package names_test

import (
	"fmt"
	"math/rand"
	"slices"
	"testing"

	"aumbry/api"
	"aumbry/names"
)

// randomFact is a fact of any kind, mostly one that may be so, and often one that is just not.
func randomFact(r *rand.Rand, p *plain) api.Fact {
	name := string(rune('a' + r.Intn(5)))
	shot := string(rune('r' + r.Intn(5)))
	time := max(0, p.now-r.Intn(20)+r.Intn(3))
	switch r.Intn(12) {
	case 0:
		return ticked(max(0, p.now+r.Intn(12)-2))
	case 1, 2, 3, 4:
		var l []byte
		for range r.Intn(5) {
			l = append(l, byte(r.Intn(40)))
		}
		return filed(name, max(1, p.next(name)+r.Intn(4)-1), time, l...)
	case 5, 6:
		return dropped(name, max(1, p.next(name)-r.Intn(6)))
	case 7, 8:
		return snapped(shot, time, someHeld(r, p)...)
	case 9:
		return unsnapped(shot)
	case 10:
		var l []api.Move
		for range 1 + r.Intn(6) {
			l = append(l, move(r.Intn(5), r.Intn(8), r.Intn(5), r.Intn(8)))
		}
		return moved(l...)
	}
	if r.Intn(3) > 0 {
		return api.Fact{Kind: []api.Kind{api.Laid, api.Freed, api.NoKind}[r.Intn(3)], Place: api.Place{Bin: 1, Run: api.Run{N: 2 * r.Intn(2)}}}
	}
	k := randomKeep(r)
	return expired(api.Keep{Last: 1 + k.Last, Young: k.Young, Step: min(k.Step, api.MaxNum), Count: k.Count})
}

// someHeld is some of the newest ones, now and then with one that is not right.
func someHeld(r *rand.Rand, p *plain) []api.Held {
	l := slices.DeleteFunc(p.newest(), func(api.Held) bool { return r.Intn(3) == 0 })
	if len(l) > 0 && r.Intn(3) == 0 {
		i := r.Intn(len(l))
		l[i].Gen = max(1, l[i].Gen-r.Intn(3))
	}
	if len(l) > 1 && r.Intn(8) == 0 {
		l[0], l[1] = l[1], l[0]
	}
	return l
}

// P16.1 to P16.6: random lives against the plain book; the Facts make a book that is alike (P16.5); a fork stands beside, and changes nothing of the other (P4).
func TestLives(t *testing.T) {
	met := map[api.Kind]map[api.Errno]int{}
	for seed := range int64(150) {
		r := rand.New(rand.NewSource(seed))
		x := with(t)
		left := pair{x.b.Fork(), x.p.fork()}
		for step := range 120 {
			if r.Intn(15) == 0 {
				left = pair{x.b.Fork(), x.p.fork()}
			}
			if r.Intn(15) == 0 {
				x, left = left, x
			}
			f := randomFact(r, x.p)
			want := x.p.check(f)
			if met[f.Kind] == nil {
				met[f.Kind] = map[api.Errno]int{}
			}
			met[f.Kind][want]++
			if want == api.OK {
				x.do(t, f)
			} else {
				x.refuses(t, f, want)
			}
			left.like(t)
			if step%10 == 0 {
				x.likeAll(t)
				left.likeAll(t)
				x.rebuilt(t)
			}
		}
	}
	for kind, want := range map[api.Kind][]api.Errno{
		api.NoKind: {api.ErrForm}, api.Laid: {api.OK, api.ErrArg}, api.Freed: {api.OK, api.ErrArg}, api.Ticked: {api.OK, api.ErrArg}, api.Filed: {api.OK, api.ErrArg, api.ErrKnown},
		api.Dropped: {api.OK, api.ErrGone}, api.Snapped: {api.OK, api.ErrArg, api.ErrKnown, api.ErrGone, api.ErrForm}, api.Unsnapped: {api.OK, api.ErrGone}, api.Moved: {api.OK}, api.Expired: {api.OK},
	} {
		for _, e := range want {
			if met[kind][e] < 10 {
				t.Errorf("kind %d with %d was met %d times", kind, e, met[kind][e])
			}
		}
	}
}

// rebuilt: the Facts, applied to a new book, make one that is alike (P16.5).
func (x pair) rebuilt(t *testing.T) {
	t.Helper()
	b := names.New()
	for _, f := range x.b.Facts() {
		if e := b.Apply(f); e != api.OK {
			t.Fatalf("Apply(%+v): %d", f, e)
		}
	}
	pair{b, x.p}.likeAll(t)
}

// full is a book that has as much as there may be, with times and generations that are as great.
func full(t *testing.T) *names.Book {
	t.Helper()
	b := names.New()
	do := func(f api.Fact) {
		t.Helper()
		if e := b.Apply(f); e != api.OK {
			t.Fatal(f.Kind, e)
		}
	}
	do(ticked(api.MaxNum))
	for gen := range api.MaxGens {
		for i := range api.MaxFiles {
			do(api.Fact{Kind: api.Filed, Name: fmt.Sprintf("%02d", i), Gen: api.MaxNum - api.MaxGens + gen + 1, Time: api.MaxNum - gen, Refs: []api.Ref{ref(byte(gen), i, gen), ref(1, 4095, 63)}})
		}
		if gen < api.MaxSnaps {
			do(snapped(fmt.Sprint("s", gen), api.MaxNum, b.Newest()...))
		}
	}
	return b
}

// P16.4, P16.5: the greatest book is told, and made anew, also with all of it gone that may be.
func TestFull(t *testing.T) {
	for _, gone := range []bool{false, true} {
		b := full(t)
		kept, alive := api.MaxGens, 0
		if gone {
			if e := b.Apply(expired(api.Keep{Step: 1})); e != api.OK {
				t.Fatal(e)
			}
			kept, alive = api.MaxSnaps, api.MaxFiles*api.MaxSnaps
		}
		if l := b.Facts(); len(l) != 1+api.MaxFiles*kept+api.MaxSnaps+alive {
			t.Error("Facts", len(l))
		}
		if l := b.Live(); len(l) != api.MaxFiles*kept+1 {
			t.Error("Live", len(l))
		}
		again := names.New()
		for _, f := range b.Facts() {
			if e := again.Apply(f); e != api.OK {
				t.Fatal(f.Kind, e)
			}
		}
		if !slices.EqualFunc(b.Files(), again.Files(), sameFile) || !slices.EqualFunc(b.Shots(), again.Shots(), sameShot) || b.Now() != again.Now() {
			t.Error("another book")
		}
	}
}

// P4: each kind of fact, applied to a fork, changes nothing of the other one, and likewise back.
func TestForks(t *testing.T) {
	facts := []api.Fact{ticked(9), filed("a", 5, 3, 1), filed("d", 1, 3, 1), dropped("a", 2), dropped("b", 1), dropped("c", 1), snapped("t", 3, held("a", 2)), unsnapped("s"), moved(move(0, 1, 5, 5)), expired(api.Keep{Step: 1})}
	for _, f := range facts {
		x := with(t, ticked(4), filed("a", 1, 1, 1, 2), filed("a", 2, 2, 2, 3), filed("b", 1, 3, 1), filed("c", 1, 4), snapped("s", 4, held("a", 2), held("b", 1)), snapped("r", 4, held("a", 1)), dropped("a", 1))
		fork := pair{x.b.Fork(), x.p.fork()}
		second := pair{fork.b.Fork(), x.p.fork()}
		fork.likeAll(t)
		fork.do(t, f)
		x.likeAll(t)
		second.likeAll(t)
		x.do(t, moved(move(0, 2, 7, 7)), f, ticked(20))
		fork.likeAll(t)
		second.likeAll(t)
		x.likeAll(t)
	}
}

// scribble writes over all that was told.
func scribble(b *names.Book) {
	for _, f := range b.Files() {
		for _, v := range f.Versions {
			clear(v.Refs[:cap(v.Refs)])
		}
		clear(f.Versions[:cap(f.Versions)])
	}
	for _, s := range b.Shots() {
		clear(s.Held[:cap(s.Held)])
	}
	for _, f := range b.Facts() {
		clear(f.Refs[:cap(f.Refs)])
		clear(f.Held[:cap(f.Held)])
	}
	clear(b.Newest())
	clear(b.Live())
	if l, e := b.Expire(api.Keep{Step: 1}); e == api.OK {
		clear(l)
	}
	for _, f := range b.Files() {
		for gen := range b.Next(f.Name) {
			v, _ := b.Get(f.Name, gen)
			clear(v.Refs[:cap(v.Refs)])
		}
		for _, s := range b.Shots() {
			v, _ := b.Via(s.Name, f.Name)
			clear(v.Refs[:cap(v.Refs)])
		}
	}
}

// P3: what is handed in stays as it is, with the room behind it, and is not kept; what is told is new memory.
func TestMemory(t *testing.T) {
	x := with(t, ticked(5))
	for _, f := range []api.Fact{filed("a", 1, 1, 1, 2, 3), filed("a", 2, 2, 4, 5), filed("b", 1, 1, 6), snapped("s", 3, held("a", 2), held("b", 1)), dropped("a", 2), moved(move(0, 1, 2, 2), move(0, 4, 3, 3)), snapped("r", 3, held("a", 1))} {
		given := f
		given.Refs = append(slices.Clone(f.Refs), ref(99, 9, 9))[:len(f.Refs)]
		given.Held = append(slices.Clone(f.Held), held("behind", 9))[:len(f.Held)]
		given.Moves = append(slices.Clone(f.Moves), move(9, 9, 9, 9))[:len(f.Moves)]
		if e := x.b.Check(given); e != api.OK {
			t.Fatal(e)
		}
		if e := x.b.Apply(given); e != api.OK || x.p.apply(f) != api.OK {
			t.Fatal(e)
		}
		x.b.Apply(expired(api.Keep{Step: 1, Last: 9}))
		if !sameFact(given, f) || given.Refs[:len(f.Refs)+1][len(f.Refs)] != ref(99, 9, 9) || given.Held[:len(f.Held)+1][len(f.Held)] != held("behind", 9) || given.Moves[:len(f.Moves)+1][len(f.Moves)] != move(9, 9, 9, 9) {
			t.Error("what was handed in is changed", given)
		}
		clear(given.Refs)
		clear(given.Held)
		clear(given.Moves)
		x.likeAll(t)
		scribble(x.b)
		x.likeAll(t)
		scribble(x.b.Fork())
		x.likeAll(t)
	}
}

// P3: the lists of one answer share no memory: what stands behind one's end is not another one's.
func TestListsApart(t *testing.T) {
	x := with(t, filed("a", 1, 0, 1, 2, 3), filed("a", 2, 0, 1, 2, 3), filed("b", 1, 0, 4, 5, 6), snapped("r", 0, held("a", 1), held("b", 1)), snapped("s", 0, held("a", 2)))
	files, shots, facts := x.b.Files(), x.b.Shots(), x.b.Facts()
	for _, f := range files {
		for _, v := range f.Versions {
			_ = append(v.Refs, ref(9, 9, 9))
		}
		_ = append(f.Versions, api.Version{Gen: 99})
	}
	for _, s := range shots {
		_ = append(s.Held, held("x", 9))
	}
	for _, f := range facts {
		_ = append(f.Refs, ref(9, 9, 9))
		_ = append(f.Held, held("x", 9))
	}
	if !slices.EqualFunc(files, x.p.told(), sameFile) || !slices.EqualFunc(shots, x.p.toldShots(), sameShot) || !slices.EqualFunc(facts, x.p.facts(), sameFact) {
		t.Error(files, shots, facts)
	}
}
