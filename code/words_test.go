package code_test

import (
	"math"
	"math/rand"
	"strings"
	"testing"

	"aumbry/api"
	"aumbry/code"
)

func wantWords(t *testing.T, lengths [256]int, want [256]string) {
	t.Helper()
	if w, e := code.Words(lengths); e != api.OK || w != want {
		t.Fatalf("Words(%v): %q, %d; want %q", lengths, w, e, want)
	}
}

func wantNoWords(t *testing.T, lengths [256]int) {
	t.Helper()
	if w, e := code.Words(lengths); e != api.ErrArg || w != [256]string{} {
		t.Fatalf("Words(%v): %q, %d; want an error", lengths, w, e)
	}
}

// P25.2
func TestWords(t *testing.T) {
	wantWords(t, [256]int{}, [256]string{})
	wantWords(t, [256]int{9: 1}, [256]string{9: "0"})
	wantWords(t, [256]int{9: 3}, [256]string{9: "000"})
	wantWords(t, [256]int{1, 1}, [256]string{"0", "1"})
	wantWords(t, [256]int{'a': 1, 'b': 2, 'c': 2}, [256]string{'a': "0", 'b': "10", 'c': "11"})
	wantWords(t, [256]int{'a': 2, 'b': 2, 'c': 1}, [256]string{'a': "10", 'b': "11", 'c': "0"})
	wantWords(t, [256]int{0: 3, 5: 3, 9: 3, 255: 1}, [256]string{0: "100", 5: "101", 9: "110", 255: "0"})
	// Longer by more than one bit.
	wantWords(t, [256]int{4, 1, 7}, [256]string{"1000", "0", "1001000"})
	wantWords(t, [256]int{60, 1}, [256]string{"1" + strings.Repeat("0", 59), "0"})
	wantWords(t, [256]int{0: 60, 255: 60}, [256]string{0: strings.Repeat("0", 60), 255: strings.Repeat("0", 59) + "1"})
	var eight [256]int
	var bytes [256]string
	for c := range 256 {
		eight[c], bytes[c] = 8, unpacked([]byte{byte(c)})
	}
	wantWords(t, eight, bytes)
}

// ladder is lengths from 1 on, up to l, the last one twice: the words have no room left.
func ladder(l int) [256]int {
	var lengths [256]int
	for i := range l {
		lengths[i] = i + 1
	}
	lengths[l] = l
	return lengths
}

// P25.2: lengths up to 60, and as many as have room.
func TestWordsRoom(t *testing.T) {
	for l := 1; l <= 60; l++ {
		full := ladder(l)
		want, _ := plainWords(full)
		wantWords(t, full, want)
		if w := want[l]; w != strings.Repeat("1", l) {
			t.Fatal(w)
		}
		for more := 1; more <= 60; more++ {
			over := full
			over[255] = more
			wantNoWords(t, over)
		}
		loose := full
		loose[l] = 0
		want, _ = plainWords(loose)
		wantWords(t, loose, want)
	}
	// All lengths that are too short, and sums that go round in 64 bits: 256 of 2^59, 32 of them, 16, 8.
	for _, n := range []int{3, 8, 16, 32, 64, 128, 256} {
		var short [256]int
		for c := range n {
			short[c] = 1
		}
		wantNoWords(t, short)
	}
	var eight [256]int
	for c := range eight {
		eight[c] = 8
	}
	eight[200] = 7
	wantNoWords(t, eight)
}

// P25.2, P5
func TestWordsErrors(t *testing.T) {
	for _, l := range []int{-1, -2, -60, 61, 62, 64, 124, 255, 1 << 32, math.MaxInt, math.MinInt} {
		for _, c := range []int{0, 1, 128, 255} {
			for _, other := range []int{0, 1, 60} {
				lengths := [256]int{100: other}
				lengths[c] = l
				wantNoWords(t, lengths)
			}
		}
	}
}

// P25.2, P25.6 (B7)
func TestWordsAny(t *testing.T) {
	r := rand.New(rand.NewSource(4))
	met := map[api.Errno]int{}
	for i := range 3000 {
		lengths := someLengths(r)
		if i%2 == 0 {
			lengths[r.Intn(256)] = r.Intn(63) - 1
		}
		want, errno := plainWords(lengths)
		met[errno]++
		if errno != api.OK {
			wantNoWords(t, lengths)
			continue
		}
		wantWords(t, lengths, want)
		wantNoBeginning(t, lengths)
	}
	if met[api.OK] < 500 || met[api.ErrArg] < 500 {
		t.Error(met)
	}
}

// wantNoBeginning: words have their lengths, and none begins another one.
func wantNoBeginning(t *testing.T, lengths [256]int) {
	t.Helper()
	words, _ := code.Words(lengths)
	for i, a := range words {
		if len(a) != lengths[i] || strings.Trim(a, "01") != "" {
			t.Fatalf("%q has not %d bits", a, lengths[i])
		}
		for j, b := range words {
			if i != j && a != "" && strings.HasPrefix(b, a) {
				t.Fatalf("%q begins %q", a, b)
			}
		}
	}
}

// P25.6 (B7): words of what bytes there are.
func TestWordsOfLengths(t *testing.T) {
	r := rand.New(rand.NewSource(5))
	for range 200 {
		wantNoBeginning(t, lengthsOf(t, someCounts(r, r.Intn(257), 1+r.Intn(8192))))
	}
}

func wantCost(t *testing.T, counts, lengths [256]int, want int) {
	t.Helper()
	if n := code.Cost(counts, lengths); n != want {
		t.Fatalf("Cost(%v, %v): %d; want %d", counts, lengths, n, want)
	}
}

// P25.2
func TestCost(t *testing.T) {
	wantCost(t, [256]int{}, [256]int{}, 0)
	wantCost(t, [256]int{'a': 5, 'b': 2, 'c': 1}, [256]int{'a': 1, 'b': 2, 'c': 2}, 11)
	wantCost(t, [256]int{3, 4}, [256]int{0, 0, 7}, 0)
	var most, long [256]int
	for c := range most {
		most[c], long[c] = 8192, 255
	}
	wantCost(t, most, long, 256*8192*255)
	for _, c := range []int{0, 1, 255} {
		for _, n := range []int{-1, 8193, math.MaxInt, math.MinInt} {
			counts, lengths := [256]int{100: 3}, [256]int{100: 7}
			counts[c], lengths[c] = n, 5
			wantCost(t, counts, lengths, 21)
		}
		for _, l := range []int{-1, 256, math.MaxInt, math.MinInt} {
			counts, lengths := [256]int{100: 3}, [256]int{100: 7}
			counts[c], lengths[c] = 5, l
			wantCost(t, counts, lengths, 21)
		}
		counts, lengths := [256]int{100: 3}, [256]int{100: 7}
		counts[c], lengths[c] = 8192, 255
		wantCost(t, counts, lengths, 21+8192*255)
		counts[c], lengths[c] = -4, -4
		wantCost(t, counts, lengths, 21)
	}
	// Lengths for which there are no words count as others do.
	wantCost(t, [256]int{1, 1, 1}, [256]int{1, 1, 61}, 63)
}
