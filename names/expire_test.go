package names_test

import (
	"math"
	"math/rand"
	"slices"
	"testing"

	"aumbry/api"
	"aumbry/names"
)

// at is a book with a file a, whose generations, from 1 on, have these times; the book's time is now.
func at(t *testing.T, now int, times ...int) pair {
	t.Helper()
	x := with(t, ticked(now))
	for i, time := range times {
		x.do(t, filed("a", i+1, time))
	}
	return x
}

// wantExpire: these generations of a do not stay; nothing is changed.
func (x pair) wantExpire(t *testing.T, k api.Keep, want ...int) {
	t.Helper()
	l, e := x.b.Expire(k)
	var got []int
	for _, h := range l {
		got = append(got, h.Gen)
		if h.Name != "a" {
			t.Error("another file", h)
		}
	}
	if e != api.OK || !slices.Equal(got, want) {
		t.Errorf("Expire(%+v): %v, %d; want %v", k, got, e, want)
	}
	x.like(t)
}

// P16.3: numbers that may not be, each alone and together; P2: nothing is told beside.
func TestExpireWrong(t *testing.T) {
	x := at(t, 9, 1, 2, 3)
	for _, n := range []int{-1, -2, -api.MaxNum, math.MinInt} {
		for _, k := range []api.Keep{{Last: n, Step: 1}, {Young: n, Step: 1}, {Step: n}, {Count: n, Step: 1}, {Last: n, Young: n, Step: n, Count: n}} {
			if l, e := x.b.Expire(k); len(l) != 0 || e != api.ErrArg {
				t.Errorf("Expire(%+v): %v, %d", k, l, e)
			}
		}
	}
	if l, e := x.b.Expire(api.Keep{Last: 1, Young: 1, Count: 1}); len(l) != 0 || e != api.ErrArg {
		t.Error("Step 0", l, e)
	}
	x.wantExpire(t, api.Keep{Step: 1}, 1, 2, 3)
}

// P16.3: the Last greatest ones stay.
func TestExpireLast(t *testing.T) {
	x := at(t, 100, 5, 4, 3, 2, 1)
	x.wantExpire(t, api.Keep{Step: 1}, 1, 2, 3, 4, 5)
	x.wantExpire(t, api.Keep{Step: 1, Last: 1}, 1, 2, 3, 4)
	x.wantExpire(t, api.Keep{Step: 1, Last: 4}, 1)
	for _, last := range []int{5, 6, api.MaxNum, math.MaxInt} {
		x.wantExpire(t, api.Keep{Step: 1, Last: last})
	}
	// Those that are gone, but held, do not count, and are not told.
	x.do(t, snapped("s", 0, held("a", 5)), dropped("a", 5), dropped("a", 3))
	x.wantExpire(t, api.Keep{Step: 1, Last: 1}, 1, 2)
	x.wantExpire(t, api.Keep{Step: 1, Last: 2}, 1)
	x.wantExpire(t, api.Keep{Step: 1, Last: 3})
}

// P16.3: those above the time less Young stay.
func TestExpireYoung(t *testing.T) {
	x := at(t, 10, 0, 10, 8, 9, 7)
	x.wantExpire(t, api.Keep{Step: 1, Young: 0}, 1, 2, 3, 4, 5)
	x.wantExpire(t, api.Keep{Step: 1, Young: 1}, 1, 3, 4, 5)
	x.wantExpire(t, api.Keep{Step: 1, Young: 2}, 1, 3, 5)
	x.wantExpire(t, api.Keep{Step: 1, Young: 3}, 1, 5)
	x.wantExpire(t, api.Keep{Step: 1, Young: 4}, 1)
	x.wantExpire(t, api.Keep{Step: 1, Young: 10}, 1)
	// P5: all of these are below 0.
	for _, young := range []int{11, 12, api.MaxNum, math.MaxInt - 1, math.MaxInt} {
		x.wantExpire(t, api.Keep{Step: 1, Young: young})
	}
	x = at(t, api.MaxNum, 0, api.MaxNum)
	x.wantExpire(t, api.Keep{Step: 1, Young: api.MaxNum}, 1)
	x.wantExpire(t, api.Keep{Step: 1, Young: 1}, 1)
	x.wantExpire(t, api.Keep{Step: 1, Young: math.MaxInt})
}

// P16.3: the greatest one in each of the Count greatest spans that have a live one stays.
func TestExpireSpans(t *testing.T) {
	x := at(t, 100, 0, 9, 10, 11, 30, 39, 40, 99)
	x.wantExpire(t, api.Keep{Step: 10, Count: 0}, 1, 2, 3, 4, 5, 6, 7, 8)
	x.wantExpire(t, api.Keep{Step: 10, Count: 1}, 1, 2, 3, 4, 5, 6, 7)
	x.wantExpire(t, api.Keep{Step: 10, Count: 2}, 1, 2, 3, 4, 5, 6)
	x.wantExpire(t, api.Keep{Step: 10, Count: 3}, 1, 2, 3, 4, 5)
	x.wantExpire(t, api.Keep{Step: 10, Count: 4}, 1, 2, 3, 5)
	for _, count := range []int{5, 6, api.MaxNum, math.MaxInt} {
		x.wantExpire(t, api.Keep{Step: 10, Count: count}, 1, 3, 5)
		x.wantExpire(t, api.Keep{Step: 1, Count: max(count, 8)})
		x.wantExpire(t, api.Keep{Step: 100, Count: count}, 1, 2, 3, 4, 5, 6, 7)
		x.wantExpire(t, api.Keep{Step: math.MaxInt, Count: count}, 1, 2, 3, 4, 5, 6, 7)
	}
	// A span in which none is live does not count.
	x.do(t, snapped("s", 0, held("a", 8)), dropped("a", 8))
	x.wantExpire(t, api.Keep{Step: 10, Count: 1}, 1, 2, 3, 4, 5, 6)
	x.wantExpire(t, api.Keep{Step: 10, Count: 3}, 1, 2, 3, 5)
	// The greatest one of a span is the greatest generation, whatever its time is; the greatest span may be an elder one's.
	x = at(t, 100, 55, 29, 20, 25, 51, 50, 3)
	x.wantExpire(t, api.Keep{Step: 10, Count: 1}, 1, 2, 3, 4, 5, 7)
	x.wantExpire(t, api.Keep{Step: 10, Count: 2}, 1, 2, 3, 5, 7)
	x.wantExpire(t, api.Keep{Step: 10, Count: 3}, 1, 2, 3, 5)
}

// P16.3: each rule alone keeps one.
func TestExpireTogether(t *testing.T) {
	x := at(t, 50, 0, 10, 20, 30, 40, 50)
	x.wantExpire(t, api.Keep{Last: 1, Young: 11, Step: 25, Count: 2}, 1, 2, 3, 4)
	x.wantExpire(t, api.Keep{Last: 1, Young: 1, Step: 25, Count: 3}, 1, 2, 4)
	x.wantExpire(t, api.Keep{Last: 2, Young: 21, Step: 25, Count: 3}, 1, 2)
	x.wantExpire(t, api.Keep{Last: 4, Young: 11, Step: 50, Count: 1}, 1, 2)
}

// P16.3: by names and generations, each file alone.
func TestExpireFiles(t *testing.T) {
	x := with(t, ticked(100), filed("b", 1, 90), filed("b", 2, 95), filed("a", 4, 1), filed("c", 1, 7), filed("a", 7, 2), filed("A", 3, 50), filed("A", 10, 50))
	want := []api.Held{held("A", 3), held("a", 4), held("b", 1)}
	for _, k := range []api.Keep{{Last: 1, Step: 1}, {Step: 50, Count: 1}, {Last: 1, Step: 10, Count: 1}} {
		if l, e := x.b.Expire(k); e != api.OK || !slices.Equal(l, want) {
			t.Errorf("Expire(%+v): %v, %d", k, l, e)
		}
	}
	x.do(t, snapped("s", 0, held("a", 4), held("b", 2)), expired(api.Keep{Last: 1, Step: 1}))
	wantGens(t, x.b, "a", -4, 7)
	wantGens(t, x.b, "b", 2)
	wantGens(t, x.b, "A", 10)
	wantGens(t, x.b, "c", 1)
	x.do(t, expired(api.Keep{Step: 1}))
	wantGens(t, x.b, "a", -4)
	wantGens(t, x.b, "b", -2)
	if l := x.b.Files(); len(l) != 2 || len(x.b.Newest()) != 0 {
		t.Error("Files", l)
	}
	x.likeAll(t)
}

// randomKeep is a Keep of which each rule keeps some.
func randomKeep(r *rand.Rand) api.Keep {
	far := []int{api.MaxNum, 1 << 40, 1000}
	pick := func(n int) int {
		if r.Intn(12) == 0 {
			return far[r.Intn(len(far))]
		}
		return r.Intn(n)
	}
	return api.Keep{Last: pick(6), Young: pick(30), Step: 1 + pick(25), Count: pick(6)}
}

// P16.3, P16.8: random books: what is told is as the chapter says; behind it nothing more expires, by Expired or by Dropped of each; Last at least 1 leaves each file its newest.
func TestExpireRandom(t *testing.T) {
	r := rand.New(rand.NewSource(1))
	met := map[int]int{}
	for range 2000 {
		x := with(t, ticked(r.Intn(60)))
		for range 1 + r.Intn(25) {
			name := string(rune('a' + r.Intn(3)))
			x.do(t, filed(name, x.b.Next(name)+r.Intn(2), r.Intn(x.p.now+1)))
		}
		if r.Intn(2) == 0 {
			x.do(t, snapped("s", 0, x.b.Newest()...))
			for _, h := range x.b.Newest() {
				x.do(t, dropped(h.Name, h.Gen))
			}
		}
		k := randomKeep(r)
		k.Step = min(k.Step, api.MaxNum)
		l, e := x.b.Expire(k)
		if want := x.p.expire(k); e != api.OK || !slices.Equal(l, want) {
			t.Fatalf("Expire(%+v): %v, %d; want %v", k, l, e, want)
		}
		met[min(len(l), 10)]++
		newest, each := x.b.Newest(), pair{x.b.Fork(), x.p.fork()}
		x.do(t, expired(k))
		for _, h := range l {
			each.do(t, dropped(h.Name, h.Gen))
		}
		pair{each.b, x.p}.like(t)
		for _, b := range []*names.Book{x.b, each.b} {
			if more, e := b.Expire(k); e != api.OK || len(more) != 0 {
				t.Fatalf("Expire(%+v), once more: %v, %d", k, more, e)
			}
			if k.Last >= 1 && !slices.Equal(b.Newest(), newest) {
				t.Fatalf("Expired(%+v): %v; want %v", k, b.Newest(), newest)
			}
		}
	}
	if len(met) < 10 {
		t.Error("met", met)
	}
}
