package hook_test

import (
	"encoding/binary"
	"math"
	"math/rand"
	"slices"
	"testing"

	"aumbry/api"
	"aumbry/hook"
)

// The signatures that the chapter lists.
var (
	_ func(int, int) (*hook.Table, api.Errno)   = hook.New
	_ func(*hook.Table, api.Sum, int) api.Errno = (*hook.Table).Put
	_ func(*hook.Table, api.Sum) []int          = (*hook.Table).Get
	_ func(*hook.Table, int) api.Errno          = (*hook.Table).Drop
	_ func(*hook.Table) int                     = (*hook.Table).Len
	_ func(*hook.Table) []api.Sum               = (*hook.Table).Sums
	_ func(*hook.Table) *hook.Table             = (*hook.Table).Fork
)

func made(t *testing.T, room, each int) *hook.Table {
	t.Helper()
	x, e := hook.New(room, each)
	if x == nil || e != api.OK {
		t.Fatalf("New(%d, %d): %d", room, each, e)
	}
	return x
}

// sum is a sum of that number: no two are alike.
func sum(n int) api.Sum {
	var s api.Sum
	binary.BigEndian.PutUint64(s[24:], uint64(n))
	return s
}

func put(t *testing.T, x *hook.Table, n int, segments ...int) {
	t.Helper()
	for _, segment := range segments {
		if e := x.Put(sum(n), segment); e != api.OK {
			t.Fatalf("Put(%d, %d): %d", n, segment, e)
		}
	}
}

func drop(t *testing.T, x *hook.Table, segment int) {
	t.Helper()
	if e := x.Drop(segment); e != api.OK {
		t.Fatalf("Drop(%d): %d", segment, e)
	}
}

func wantGet(t *testing.T, x *hook.Table, n int, want ...int) {
	t.Helper()
	if got := x.Get(sum(n)); !slices.Equal(got, want) {
		t.Errorf("Get(%d): %v; want %v", n, got, want)
	}
}

// wantSums: the entries are those of these sums, the one that was used last first.
func wantSums(t *testing.T, x *hook.Table, want ...int) {
	t.Helper()
	var sums []api.Sum
	for _, n := range want {
		sums = append(sums, sum(n))
	}
	if got := x.Sums(); !slices.Equal(got, sums) || x.Len() != len(want) {
		t.Errorf("%d entries: %x; want %v", x.Len(), got, want)
	}
}

// plain is a table by the chapter's words: entries, the one that was used last first.
type plain struct {
	room, each int
	entries    []plainEntry
}

type plainEntry struct {
	n        int
	segments []int
}

func (p *plain) at(n int) int {
	return slices.IndexFunc(p.entries, func(e plainEntry) bool { return e.n == n })
}

func (p *plain) use(i int) {
	e := p.entries[i]
	p.entries = slices.Insert(slices.Delete(p.entries, i, i+1), 0, e)
}

func (p *plain) put(n, segment int) {
	i := p.at(n)
	if i < 0 && len(p.entries) == p.room {
		p.entries = p.entries[:p.room-1]
	}
	if i < 0 {
		p.entries = slices.Insert(p.entries, 0, plainEntry{n: n})
		i = 0
	}
	p.use(i)
	l := []int{segment}
	for _, other := range p.entries[0].segments {
		if other != segment && len(l) < p.each {
			l = append(l, other)
		}
	}
	p.entries[0].segments = l
}

func (p *plain) get(n int) []int {
	i := p.at(n)
	if i < 0 {
		return nil
	}
	p.use(i)
	return p.entries[0].segments
}

func (p *plain) drop(segment int) {
	var left []plainEntry
	for _, e := range p.entries {
		var l []int
		for _, other := range e.segments {
			if other != segment {
				l = append(l, other)
			}
		}
		if len(l) > 0 {
			left = append(left, plainEntry{e.n, l})
		}
	}
	p.entries = left
}

func (p *plain) fork() *plain {
	other := &plain{room: p.room, each: p.each}
	for _, e := range p.entries {
		other.entries = append(other.entries, plainEntry{e.n, slices.Clone(e.segments)})
	}
	return other
}

func (p *plain) order() []int {
	var l []int
	for _, e := range p.entries {
		l = append(l, e.n)
	}
	return l
}

// wantLike: a table tells what the plain one does. What it has is asked of a fork, for asking uses entries.
func wantLike(t *testing.T, x *hook.Table, p *plain) {
	t.Helper()
	wantSums(t, x, p.order()...)
	asked := x.Fork()
	for _, e := range p.entries {
		wantGet(t, asked, e.n, e.segments...)
	}
	if t.Failed() {
		t.FailNow()
	}
}

// P9.1
func TestNewWrong(t *testing.T) {
	for _, n := range []int{0, -1, math.MinInt, math.MaxInt} {
		for _, right := range []int{1, api.MaxEach} {
			for _, c := range [][2]int{{n, right}, {right, n}, {n, n}} {
				if x, e := hook.New(c[0], c[1]); x != nil || e != api.ErrArg {
					t.Errorf("New(%d, %d): %v, %d", c[0], c[1], x, e)
				}
			}
		}
	}
	for _, c := range [][2]int{{api.MaxTable + 1, 1}, {1, api.MaxEach + 1}, {api.MaxTable + 1, api.MaxEach + 1}} {
		if x, e := hook.New(c[0], c[1]); x != nil || e != api.ErrArg {
			t.Errorf("New(%d, %d): %v, %d", c[0], c[1], x, e)
		}
	}
}

// P9.1: a table without entries.
func TestNew(t *testing.T) {
	for _, room := range []int{1, 2, api.MaxTable - 1, api.MaxTable} {
		for each := 1; each <= api.MaxEach; each++ {
			x := made(t, room, each)
			wantSums(t, x)
			wantGet(t, x, 0)
			drop(t, x, 0)
			wantSums(t, x)
		}
	}
}

// The chapter's example.
func TestExample(t *testing.T) {
	x := made(t, 1, 2)
	put(t, x, 7, 1, 2, 1)
	wantGet(t, x, 7, 1, 2)
	put(t, x, 8, 3)
	wantGet(t, x, 7)
	wantGet(t, x, 8, 3)
}

// P9.2: the last ones first, each once, at most so many.
func TestPutOrder(t *testing.T) {
	x := made(t, 4, 3)
	put(t, x, 1, 5)
	wantGet(t, x, 1, 5)
	put(t, x, 1, 6)
	wantGet(t, x, 1, 6, 5)
	put(t, x, 1, 5)
	wantGet(t, x, 1, 5, 6)
	put(t, x, 1, 5)
	wantGet(t, x, 1, 5, 6)
	put(t, x, 1, 0)
	wantGet(t, x, 1, 0, 5, 6)
	put(t, x, 1, 6)
	wantGet(t, x, 1, 6, 0, 5)
	put(t, x, 1, 9)
	wantGet(t, x, 1, 9, 6, 0)
	put(t, x, 1, 5)
	wantGet(t, x, 1, 5, 9, 6)
	wantSums(t, x, 1)
}

// P9.2, P9.4: at each each.
func TestPutEach(t *testing.T) {
	for each := 1; each <= api.MaxEach; each++ {
		x := made(t, 2, each)
		var want []int
		for segment := range 20 {
			put(t, x, 1, segment)
			want = slices.Insert(want, 0, segment)
			want = want[:min(len(want), each)]
			wantGet(t, x, 1, want...)
			wantGet(t, x, 2)
		}
	}
}

// P9.2: a segment of any size from 0 on.
func TestPutFar(t *testing.T) {
	x := made(t, 2, 3)
	put(t, x, 1, 0, math.MaxInt, api.MaxBins)
	wantGet(t, x, 1, api.MaxBins, math.MaxInt, 0)
	drop(t, x, math.MaxInt)
	wantGet(t, x, 1, api.MaxBins, 0)
}

// P9.2, P2: with an error nothing has changed: no entry is gone, or used, or there.
func TestPutWrong(t *testing.T) {
	x := made(t, 2, 2)
	put(t, x, 1, 10, 11)
	put(t, x, 2, 20)
	for _, segment := range []int{-1, -2, math.MinInt} {
		for n := 1; n <= 3; n++ {
			if e := x.Put(sum(n), segment); e != api.ErrArg {
				t.Errorf("Put(%d, %d): %d", n, segment, e)
			}
		}
	}
	wantSums(t, x, 2, 1)
	wantGet(t, x, 1, 11, 10)
	wantGet(t, x, 2, 20)
}

// P9.2: who is gone is the one that was used longest ago, by Put or by Get.
func TestUsedLongestAgo(t *testing.T) {
	x := made(t, 3, 2)
	put(t, x, 1, 10)
	put(t, x, 2, 20)
	put(t, x, 3, 30)
	wantSums(t, x, 3, 2, 1)
	wantGet(t, x, 1, 10)
	wantSums(t, x, 1, 3, 2)
	put(t, x, 4, 40)
	wantSums(t, x, 4, 1, 3)
	put(t, x, 3, 31)
	wantSums(t, x, 3, 4, 1)
	put(t, x, 5, 50)
	wantSums(t, x, 5, 3, 4)
	wantGet(t, x, 1)
	wantGet(t, x, 2)
	// One that is gone comes anew, without what it had.
	put(t, x, 1, 11)
	wantSums(t, x, 1, 5, 3)
	wantGet(t, x, 1, 11)
	// To put what is there already, or to get what is not there, takes no entry away.
	put(t, x, 3, 31, 31)
	wantGet(t, x, 9)
	wantSums(t, x, 3, 1, 5)
}

// P9.3, P2: Len and Sums, and a Get of none, use no entry.
func TestAskingUsesNone(t *testing.T) {
	x := made(t, 2, 2)
	put(t, x, 1, 10)
	put(t, x, 2, 20)
	x.Len()
	x.Sums()
	x.Fork().Get(sum(1))
	wantGet(t, x, 3)
	wantSums(t, x, 2, 1)
	put(t, x, 3, 30)
	wantSums(t, x, 3, 2)
}

// P9.2: Drop uses none; entries without any are gone, and leave room.
func TestDrop(t *testing.T) {
	x := made(t, 4, 3)
	put(t, x, 1, 10, 77)
	put(t, x, 2, 77)
	put(t, x, 3, 77, 30, 31)
	put(t, x, 4, 40, 77, 41)
	drop(t, x, 77)
	wantSums(t, x, 4, 3, 1)
	drop(t, x, 77)
	drop(t, x, 5)
	wantSums(t, x, 4, 3, 1)
	put(t, x, 5, 50)
	wantSums(t, x, 5, 4, 3, 1)
	put(t, x, 6, 60)
	wantSums(t, x, 6, 5, 4, 3)
	wantGet(t, x, 2)
	wantGet(t, x, 3, 31, 30)
	wantGet(t, x, 4, 41, 40)
	drop(t, x, 30)
	wantGet(t, x, 3, 31)
	drop(t, x, 31)
	wantGet(t, x, 3)
	wantSums(t, x, 4, 6, 5)
	// What was dropped may be put again.
	put(t, x, 2, 77)
	wantGet(t, x, 2, 77)
}

// P9.2, P1: of a segment that none could have.
func TestDropFar(t *testing.T) {
	x := made(t, 2, 2)
	put(t, x, 1, 0, 3)
	for _, segment := range []int{-1, math.MinInt, math.MaxInt, 1} {
		drop(t, x, segment)
	}
	wantGet(t, x, 1, 3, 0)
}

// P9.2: many entries are gone at once, wherever they stand.
func TestDropMany(t *testing.T) {
	r := rand.New(rand.NewSource(1))
	for range 200 {
		room := 1 + r.Intn(60)
		x, p := made(t, room, 2), &plain{room: room, each: 2}
		for range 100 {
			n, segment := r.Intn(60), r.Intn(3)
			put(t, x, n, segment)
			p.put(n, segment)
		}
		for segment := range 3 {
			drop(t, x, segment)
			p.drop(segment)
			wantLike(t, x, p)
		}
		wantSums(t, x)
	}
}

// P9.2 to P9.5: any steps, against the chapter's words; forks stand beside and change nothing.
func TestSteps(t *testing.T) {
	for seed := range int64(200) {
		r := rand.New(rand.NewSource(seed))
		room, each := 1+r.Intn(12), 1+r.Intn(api.MaxEach)
		x, p := made(t, room, each), &plain{room: room, each: each}
		left, leftPlain := x.Fork(), p.fork()
		for range 150 {
			n, segment := r.Intn(20), r.Intn(15)
			switch r.Intn(12) {
			case 0:
				left, leftPlain = x.Fork(), p.fork()
			case 1:
				x, left, p, leftPlain = left, x, leftPlain, p
			case 2:
				drop(t, x, segment)
				p.drop(segment)
			case 3, 4, 5:
				wantGet(t, x, n, p.get(n)...)
			case 6:
				if x.Put(sum(n), -1-segment) != api.ErrArg {
					t.Fatal("put below 0")
				}
			default:
				put(t, x, n, segment)
				p.put(n, segment)
			}
			wantLike(t, x, p)
			wantLike(t, left, leftPlain)
		}
	}
}

// P9.4 (B4): a full table of the greatest sizes, whatever is put.
func TestBounds(t *testing.T) {
	r := rand.New(rand.NewSource(2))
	x := made(t, api.MaxTable, api.MaxEach)
	for i := range 3 * api.MaxTable {
		put(t, x, i, r.Intn(50))
		for range 3 {
			put(t, x, max(0, i-r.Intn(api.MaxTable)), r.Intn(50))
		}
		if x.Len() > api.MaxTable {
			t.Fatal("entries", x.Len())
		}
	}
	sums := x.Sums()
	if x.Len() != api.MaxTable || len(sums) != api.MaxTable {
		t.Error("entries", x.Len())
	}
	for _, s := range sums {
		if n := len(x.Get(s)); n < 1 || n > api.MaxEach {
			t.Fatal("segments", n)
		}
	}
}

// P9.5: what was put of fewer than room other sums since is still there; of room others it is not.
func TestStillThere(t *testing.T) {
	r := rand.New(rand.NewSource(3))
	for _, room := range []int{1, 2, 3, 7, 64, 500} {
		x := made(t, room, 3)
		for n := range 2 * room {
			put(t, x, n, r.Intn(9))
		}
		put(t, x, 9999, 5)
		for n := range room {
			if got := x.Fork().Get(sum(9999)); len(got) != 1 || got[0] != 5 {
				t.Fatalf("room %d: behind %d others: %v", room, n, got)
			}
			// Twice: the sum that is put again is no other one.
			put(t, x, 10000+n, 1, 2)
		}
		wantGet(t, x, 9999)
	}
}

// P9.5: behind a Put, Get tells that segment first.
func TestPutIsFirst(t *testing.T) {
	r := rand.New(rand.NewSource(4))
	x := made(t, 5, 4)
	for range 2000 {
		n, segment := r.Intn(9), r.Intn(9)
		put(t, x, n, segment)
		l := x.Get(sum(n))
		if len(l) == 0 || l[0] != segment || slices.Index(l[1:], segment) >= 0 {
			t.Fatalf("Get(%d) behind Put of %d: %v", n, segment, l)
		}
	}
}

// P9.2: all of a sum's bytes tell it from others.
func TestEachByteOfASum(t *testing.T) {
	x := made(t, 40, 1)
	put(t, x, 0, 99)
	for i := range len(api.Sum{}) {
		s := api.Sum{}
		s[i] = 1
		if len(x.Get(s)) != 0 || x.Put(s, i) != api.OK || !slices.Equal(x.Get(s), []int{i}) {
			t.Errorf("the byte %d plays no part", i)
		}
	}
	wantGet(t, x, 0, 99)
}

// P9.2, P9.3, P1: of nil.
func TestNil(t *testing.T) {
	var x *hook.Table
	if x.Put(sum(1), 1) != api.ErrNil || x.Put(sum(1), -1) != api.ErrNil || x.Drop(1) != api.ErrNil {
		t.Error("nil is changed")
	}
	if len(x.Get(sum(1))) != 0 || x.Len() != 0 || len(x.Sums()) != 0 || x.Fork() != nil {
		t.Error("nil tells something")
	}
}

// P1: a struct that no call made only does not panic.
func TestNotMade(t *testing.T) {
	x := new(hook.Table)
	x.Put(sum(1), 1)
	x.Put(sum(2), -1)
	x.Get(sum(1))
	x.Drop(1)
	if o := x.Fork(); x.Len() != 0 || len(x.Sums()) != 0 || o.Len() != 0 || len(o.Get(sum(1))) != 0 {
		t.Error("entries of one that no call made")
	}
}

// P9.3, P4
func TestFork(t *testing.T) {
	x := made(t, 3, 2)
	put(t, x, 1, 10, 11)
	put(t, x, 2, 20)
	put(t, x, 3, 30)
	wantGet(t, x, 1, 11, 10)
	y := x.Fork()
	if x == y {
		t.Fatal("a fork is itself")
	}
	wantSums(t, y, 1, 3, 2)
	// Of as much room: the same one is gone, and as many stay of an entry.
	put(t, y, 4, 40)
	put(t, y, 1, 12)
	wantSums(t, y, 1, 4, 3)
	wantGet(t, y, 1, 12, 11)
	wantSums(t, x, 1, 3, 2)
	wantGet(t, x, 1, 11, 10)
	drop(t, x, 30)
	drop(t, x, 11)
	put(t, x, 2, 21)
	wantSums(t, x, 2, 1)
	wantGet(t, x, 1, 10)
	wantGet(t, y, 3, 30)
	wantSums(t, y, 3, 1, 4)
	wantGet(t, y, 1, 12, 11)
	z := y.Fork()
	drop(t, y, 40)
	wantGet(t, z, 4, 40)
	wantSums(t, y, 1, 3)
}

// P3: answers are new memory, with the room behind them.
func TestMemory(t *testing.T) {
	x := made(t, 3, 3)
	put(t, x, 1, 10, 11)
	put(t, x, 2, 20)
	l := x.Get(sum(1))
	full := l[:cap(l)]
	for i := range full {
		full[i] = 99
	}
	put(t, x, 1, 12)
	if slices.ContainsFunc(full, func(n int) bool { return n != 99 }) {
		t.Error("an answer is changed by a Put")
	}
	wantGet(t, x, 1, 12, 11, 10)
	one, two := x.Get(sum(1)), x.Get(sum(1))
	clear(one[:cap(one)])
	if !slices.Equal(two, []int{12, 11, 10}) {
		t.Error("two answers are one")
	}
	sums := x.Sums()
	clear(sums[:cap(sums)])
	wantSums(t, x, 1, 2)
}

// P6: tables know nothing of each other.
func TestApart(t *testing.T) {
	x, y := made(t, 2, 2), made(t, 2, 2)
	put(t, x, 1, 10)
	wantSums(t, y)
	put(t, y, 2, 10)
	drop(t, y, 10)
	wantGet(t, x, 1, 10)
	wantSums(t, y)
}
