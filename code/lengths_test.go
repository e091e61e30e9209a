package code_test

import (
	"math"
	"math/rand"
	"sort"
	"testing"

	"aumbry/api"
	"aumbry/code"
)

// The signatures that the chapter lists.
var (
	_ func(counts [256]int) ([256]int, api.Errno)     = code.Lengths
	_ func(lengths [256]int) ([256]string, api.Errno) = code.Words
	_ func(counts, lengths [256]int) int              = code.Cost
	_ func(p []byte) ([]byte, api.Errno)              = code.Put
	_ func(b []byte, most int) ([]byte, api.Errno)    = code.Take
)

func lengthsOf(t *testing.T, counts [256]int) [256]int {
	t.Helper()
	l, e := code.Lengths(counts)
	if e != api.OK {
		t.Fatalf("Lengths(%v): %d", counts, e)
	}
	return l
}

func wantLengths(t *testing.T, counts, want [256]int) {
	t.Helper()
	if l := lengthsOf(t, counts); l != want {
		t.Fatalf("Lengths(%v): %v; want %v", counts, l, want)
	}
}

// P25.1
func TestLengths(t *testing.T) {
	wantLengths(t, [256]int{}, [256]int{})
	wantLengths(t, [256]int{'a': 5, 'b': 2, 'c': 1}, [256]int{'a': 1, 'b': 2, 'c': 2})
	wantLengths(t, [256]int{1, 1}, [256]int{1, 1})
	wantLengths(t, [256]int{0: 1, 255: 8192}, [256]int{0: 1, 255: 1})
	wantLengths(t, [256]int{1, 1, 1}, [256]int{2, 2, 1})
	wantLengths(t, [256]int{1, 1, 1, 1}, [256]int{2, 2, 2, 2})
	wantLengths(t, [256]int{1, 2, 4, 8, 16}, [256]int{4, 4, 3, 2, 1})
	wantLengths(t, [256]int{16, 8, 4, 2, 1}, [256]int{1, 2, 3, 4, 4})
}

// P25.1: a byte alone.
func TestLengthsAlone(t *testing.T) {
	for c := range 256 {
		for _, n := range []int{1, 2, 8192} {
			var counts, want [256]int
			counts[c], want[c] = n, 1
			wantLengths(t, counts, want)
		}
	}
}

// P25.1: of like trees the one whose least byte is least.
func TestLengthsOfLike(t *testing.T) {
	// a and b become a tree of 2, which is like c and d, and comes ahead of them, by a; c and d become one that comes behind a and b.
	wantLengths(t, [256]int{'a': 1, 'b': 1, 'c': 2, 'd': 2}, [256]int{'a': 3, 'b': 3, 'c': 2, 'd': 1})
	wantLengths(t, [256]int{'a': 2, 'b': 2, 'c': 1, 'd': 1}, [256]int{'a': 2, 'b': 2, 'c': 2, 'd': 2})
	wantLengths(t, [256]int{'a': 2, 'b': 1, 'c': 1, 'd': 2}, [256]int{'a': 2, 'b': 3, 'c': 3, 'd': 1})
	// The least byte of a tree is the lesser one, though it came by the greater count.
	wantLengths(t, [256]int{'x': 1, 'a': 2, 'b': 3, 'c': 3}, [256]int{'x': 3, 'a': 3, 'b': 2, 'c': 1})
	wantLengths(t, [256]int{'a': 1, 'x': 2, 'b': 3, 'c': 3}, [256]int{'a': 3, 'x': 3, 'b': 2, 'c': 1})
	wantLengths(t, [256]int{'x': 1, 'b': 2, 'a': 3, 'c': 3}, [256]int{'x': 3, 'b': 3, 'a': 2, 'c': 1})
	wantLengths(t, [256]int{'x': 1, 'y': 2, 'b': 3, 'c': 3}, [256]int{'x': 2, 'y': 2, 'b': 2, 'c': 2})
	var alike, eight [256]int
	for c := range 256 {
		alike[c], eight[c] = 8192, 8
	}
	wantLengths(t, alike, eight)
}

// P25.1: as unlike as counts can be.
func TestLengthsLong(t *testing.T) {
	var counts [256]int
	a, b, n := 1, 1, 0
	for ; a <= 8192; n++ {
		counts[n] = a
		a, b = b, a+b
	}
	l := lengthsOf(t, counts)
	if l != plainLengths(counts) || l[0] != n-1 || l[n-1] != 1 {
		t.Fatal(l)
	}
	for c := n; c < 256; c++ {
		counts[c] = 8192
	}
	wantLengths(t, counts, plainLengths(counts))
	if _, e := code.Words(lengthsOf(t, counts)); e != api.OK {
		t.Fatal(e)
	}
}

// P25.1
func TestLengthsAny(t *testing.T) {
	r := rand.New(rand.NewSource(1))
	for range 4000 {
		counts := someCounts(r, r.Intn(257), []int{1, 2, 3, 5, 20, 300, 8192}[r.Intn(7)])
		wantLengths(t, counts, plainLengths(counts))
	}
}

// P25.1, P2: all counts within a few bytes.
func TestLengthsAllSmall(t *testing.T) {
	for i := range 1 << 15 {
		var counts [256]int
		for j := range 5 {
			counts[j*50+j*j] = i >> (3 * j) & 7
		}
		wantLengths(t, counts, plainLengths(counts))
	}
}

// P25.1, P2, P5
func TestLengthsErrors(t *testing.T) {
	for _, n := range []int{-1, -2, 8193, 1 << 32, math.MaxInt, math.MinInt} {
		for _, c := range []int{0, 1, 127, 128, 255} {
			for _, other := range []int{0, 1, 8192} {
				counts := [256]int{7: other, 99: other}
				counts[c] = n
				if l, e := code.Lengths(counts); e != api.ErrArg || l != [256]int{} {
					t.Errorf("%d at %d: %v, %d", n, c, l, e)
				}
			}
		}
	}
}

// cheapest is the least cost of words for counts, found by two queues: what is joined never gets less.
func cheapest(counts [256]int) int {
	var single, both []int
	for _, n := range counts {
		if n > 0 {
			single = append(single, n)
		}
	}
	if len(single) == 1 {
		return single[0]
	}
	sort.Ints(single)
	next := func() int {
		from := &single
		if len(single) == 0 || len(both) > 0 && both[0] < single[0] {
			from = &both
		}
		n := (*from)[0]
		*from = (*from)[1:]
		return n
	}
	cost := 0
	for len(single)+len(both) > 1 {
		n := next() + next()
		cost += n
		both = append(both, n)
	}
	return cost
}

// P25.7 (B7): many bytes, against another way to reckon.
func TestCheapest(t *testing.T) {
	r := rand.New(rand.NewSource(2))
	for range 2000 {
		counts := someCounts(r, r.Intn(257), []int{1, 3, 40, 8192}[r.Intn(4)])
		if got, want := code.Cost(counts, lengthsOf(t, counts)), cheapest(counts); got != want {
			t.Fatalf("%v: %d; want %d", counts, got, want)
		}
	}
}

// P25.7 (B7): few bytes, against all lengths for which there are words.
func TestCheapestOfAll(t *testing.T) {
	var there [][256]int
	for i := range 6 * 6 * 6 * 6 * 6 {
		var lengths [256]int
		for j := range 5 {
			lengths[j] = i % 6
			i /= 6
		}
		if _, e := code.Words(lengths); e == api.OK {
			there = append(there, lengths)
		}
	}
	r := rand.New(rand.NewSource(3))
	for range 60 {
		var counts [256]int
		for j := range 5 {
			counts[j] = r.Intn([]int{2, 5, 30, 8193}[r.Intn(4)])
		}
		cost := code.Cost(counts, lengthsOf(t, counts))
		for _, lengths := range there {
			if covers(lengths, counts) && code.Cost(counts, lengths) < cost {
				t.Fatalf("%v: %v is cheaper than %d", counts[:5], lengths[:5], cost)
			}
		}
	}
}

// covers: has each byte that is there a length?
func covers(lengths, counts [256]int) bool {
	for c, n := range counts {
		if n > 0 && lengths[c] == 0 {
			return false
		}
	}
	return true
}
