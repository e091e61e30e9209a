package segment_test

import (
	"math"
	"math/rand"
	"slices"
	"testing"

	"aumbry/api"
	"aumbry/segment"
)

func wantChampions(t *testing.T, hits [][]int, most int, want ...int) {
	t.Helper()
	if got := segment.Champions(hits, most); !slices.Equal(got, want) {
		t.Errorf("Champions(%v, %d): %v; want %v", hits, most, got, want)
	}
}

// P7.3, and the chapter's second example.
func TestChampions(t *testing.T) {
	wantChampions(t, [][]int{{1, 2}, {2, 3}, {3}}, 2, 3, 2)
	wantChampions(t, [][]int{{1, 2}, {2, 3}, {3}}, 1, 3)
	wantChampions(t, [][]int{{1, 2}, {2, 3}, {3}}, 8, 3, 2)
	wantChampions(t, [][]int{{1, 2}, {2, 3}, {1, 2}, {3}}, 8, 2, 3)
	// 1 is in more lists than 9, though 9 stands more often.
	wantChampions(t, [][]int{{9, 9, 9, 9}, {1}, {1}}, 8, 1, 9)
	wantChampions(t, [][]int{{9, 9, 5, 9}, {5}, {1, 5, 1}}, 8, 5)
	// Once all lists of one are gone, others count less than they did.
	wantChampions(t, [][]int{{1, 2}, {1, 2}, {1, 3}, {1}, {2}, {3}, {3}}, 8, 1, 3, 2)
}

// P7.3: none.
func TestChampionsNone(t *testing.T) {
	for _, hits := range [][][]int{nil, {}, {nil}, {{}, nil, {}}} {
		wantChampions(t, hits, 3)
		wantChampions(t, hits, math.MaxInt)
	}
	for _, most := range []int{0, -1, math.MinInt} {
		wantChampions(t, [][]int{{1, 2}, {2}}, most)
	}
}

// P7.3: lists without numbers beside others.
func TestChampionsEmptyLists(t *testing.T) {
	wantChampions(t, [][]int{nil, {0}, {}}, 3, 0)
	wantChampions(t, [][]int{{}, {-4}, nil, {-4}, {-5}}, 3, -4, -5)
}

// P7.3, P6: of like ones the greatest number, in whatever order they stand.
func TestChampionsAlike(t *testing.T) {
	wantChampions(t, [][]int{{3, 7, 5}}, 8, 7)
	wantChampions(t, [][]int{{7, 3, 5}}, 8, 7)
	wantChampions(t, [][]int{{3}, {7}, {5}}, 8, 7, 5, 3)
	wantChampions(t, [][]int{{-3}, {-7}, {-5}}, 8, -3, -5, -7)
	wantChampions(t, [][]int{{math.MinInt}, {math.MaxInt}, {0}, {-1}}, 8, math.MaxInt, 0, -1, math.MinInt)
	wantChampions(t, [][]int{{1, 4}, {4, 1}, {2, 3}, {3, 2}}, 8, 4, 3)
}

// P7.3: MaxChamp at most.
func TestChampionsMost(t *testing.T) {
	var hits [][]int
	for i := range 20 {
		hits = append(hits, []int{i})
	}
	all := []int{19, 18, 17, 16, 15, 14, 13, 12}
	for _, most := range []int{8, 9, 20, 1000, math.MaxInt} {
		wantChampions(t, hits, most, all...)
	}
	for most := range api.MaxChamp {
		wantChampions(t, hits, most, all[:most]...)
	}
}

// plainChampions are the champions by the chapter's words: all numbers are tried, from the greatest on.
func plainChampions(hits [][]int, most int) []int {
	left := slices.Clone(hits)
	var chosen []int
	for len(chosen) < most && len(chosen) < api.MaxChamp {
		numbers := slices.Concat(left...)
		if len(numbers) == 0 {
			break
		}
		slices.Sort(numbers)
		slices.Reverse(numbers)
		best, in := 0, 0
		for _, n := range numbers {
			k := 0
			for _, l := range left {
				if slices.Contains(l, n) {
					k++
				}
			}
			if k > in {
				best, in = n, k
			}
		}
		chosen = append(chosen, best)
		var rest [][]int
		for _, l := range left {
			if !slices.Contains(l, best) {
				rest = append(rest, l)
			}
		}
		left = rest
	}
	return chosen
}

func randomHits(r *rand.Rand) [][]int {
	hits := make([][]int, r.Intn(20))
	for i := range hits {
		for range r.Intn(6) {
			hits[i] = append(hits[i], r.Intn(12)-3)
		}
	}
	return hits
}

// P7.3, P7.6: against the chapter's words; no champion twice, each in a list that no one ahead is in.
func TestChampionsAny(t *testing.T) {
	r := rand.New(rand.NewSource(1))
	for range 5000 {
		hits, most := randomHits(r), r.Intn(11)-1
		got := segment.Champions(hits, most)
		if want := plainChampions(hits, most); !slices.Equal(got, want) {
			t.Fatalf("Champions(%v, %d): %v; want %v", hits, most, got, want)
		}
		for i, n := range got {
			ahead := func(l []int) bool {
				return slices.ContainsFunc(got[:i], func(c int) bool { return slices.Contains(l, c) })
			}
			if slices.Contains(got[:i], n) || !slices.ContainsFunc(hits, func(l []int) bool { return slices.Contains(l, n) && !ahead(l) }) {
				t.Fatalf("Champions(%v, %d): %v: the %d. one is in no list of its own", hits, most, got, i)
			}
		}
	}
}

// P7.3: in which order the lists, and the numbers in them, stand plays no part.
func TestChampionsOrder(t *testing.T) {
	r := rand.New(rand.NewSource(2))
	for range 500 {
		hits := randomHits(r)
		want := segment.Champions(hits, 8)
		r.Shuffle(len(hits), func(i, j int) { hits[i], hits[j] = hits[j], hits[i] })
		for _, l := range hits {
			r.Shuffle(len(l), func(i, j int) { l[i], l[j] = l[j], l[i] })
		}
		wantChampions(t, hits, 8, want...)
	}
}

// P3: the lists stay as they are, with the room behind them, and the answer lies in none of them.
func TestChampionsMemory(t *testing.T) {
	room := [][]int{{5, 1, 5, 9, 7}, {3, 2, 3, 8}, {4}, {6, 6}}
	kept := make([][]int, len(room))
	for i, l := range room {
		kept[i] = slices.Clone(l)
	}
	hits := slices.Clone(room)[:3]
	hits[0], hits[1] = room[0][:3], room[1][:3]
	got := segment.Champions(hits, 8)
	got[0] = -1
	_ = append(got[:1], -1, -1)
	if !slices.EqualFunc(room, kept, slices.Equal) || len(hits[0]) != 3 || len(hits[1]) != 3 || !slices.Equal(hits[:4][3], kept[3]) {
		t.Error("a list is changed", room)
	}
	wantChampions(t, hits, 8, 5, 4, 3)
}

// Many numbers end soon.
func TestChampionsMany(t *testing.T) {
	var hits [][]int
	for i := range 300 {
		var l []int
		for k := range 1000 {
			l = append(l, (i*k)%5000)
		}
		hits = append(hits, l)
	}
	wantChampions(t, hits, 8, 0)
}
