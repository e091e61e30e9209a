package cache_test

import (
	"encoding/binary"
	"math"
	"math/rand"
	"slices"
	"testing"

	"aumbry/api"
	"aumbry/cache"
)

// The signatures that the chapter lists.
var (
	_ func(int) (*cache.Cache, api.Errno)          = cache.New
	_ func(*cache.Cache, int, []api.Sum) api.Errno = (*cache.Cache).Put
	_ func(*cache.Cache, api.Sum) (int, int, bool) = (*cache.Cache).Find
	_ func(*cache.Cache, int) bool                 = (*cache.Cache).Has
	_ func(*cache.Cache, int) api.Errno            = (*cache.Cache).Drop
	_ func(*cache.Cache) api.Errno                 = (*cache.Cache).Clear
	_ func(*cache.Cache) []int                     = (*cache.Cache).Bins
	_ func(*cache.Cache) int                       = (*cache.Cache).Sums
	_ func(*cache.Cache) *cache.Cache              = (*cache.Cache).Fork
)

func made(t *testing.T, room int) *cache.Cache {
	t.Helper()
	c, e := cache.New(room)
	if c == nil || e != api.OK {
		t.Fatalf("New(%d): %d", room, e)
	}
	return c
}

// sum is a sum of that number: no two are alike.
func sum(n int) api.Sum {
	var s api.Sum
	binary.BigEndian.PutUint64(s[24:], uint64(n))
	return s
}

func sums(l ...int) []api.Sum {
	out := make([]api.Sum, 0, len(l))
	for _, n := range l {
		out = append(out, sum(n))
	}
	return out
}

func put(t *testing.T, c *cache.Cache, bin int, l ...int) {
	t.Helper()
	if e := c.Put(bin, sums(l...)); e != api.OK {
		t.Fatalf("Put(%d, %v): %d", bin, l, e)
	}
}

func drop(t *testing.T, c *cache.Cache, bin int) {
	t.Helper()
	if e := c.Drop(bin); e != api.OK {
		t.Fatalf("Drop(%d): %d", bin, e)
	}
}

func wantFind(t *testing.T, c *cache.Cache, n, bin, slot int) {
	t.Helper()
	if b, s, is := c.Find(sum(n)); b != bin || s != slot || !is {
		t.Errorf("Find(%d): %d, %d, %v; want %d, %d", n, b, s, is, bin, slot)
	}
}

func wantNone(t *testing.T, c *cache.Cache, n int) {
	t.Helper()
	if b, s, is := c.Find(sum(n)); b != 0 || s != 0 || is {
		t.Errorf("Find(%d): %d, %d, %v; want none", n, b, s, is)
	}
}

// wantBins: so many sums, of these containers, the one that was used last first.
func wantBins(t *testing.T, c *cache.Cache, count int, want ...int) {
	t.Helper()
	if l := c.Bins(); !slices.Equal(l, want) || c.Sums() != count {
		t.Errorf("%d sums of %v; want %d of %v", c.Sums(), l, count, want)
	}
	for _, bin := range want {
		if !c.Has(bin) {
			t.Errorf("Has(%d): false", bin)
		}
	}
}

// plain is a cache by the chapter's words: containers, the one that was used last first.
type plain struct {
	room int
	all  []plainBin
}

type plainBin struct {
	bin int
	l   []int
}

func (p *plain) drop(bin int) {
	p.all = slices.DeleteFunc(p.all, func(b plainBin) bool { return b.bin == bin })
}

func (p *plain) put(bin int, l []int) {
	p.drop(bin)
	p.all = slices.Insert(p.all, 0, plainBin{bin, l})
	p.all = p.all[:min(len(p.all), p.room)]
}

func (p *plain) find(n int) (int, int, bool) {
	for _, b := range p.all {
		if slot := slices.Index(b.l, n); slot >= 0 {
			p.put(b.bin, b.l)
			return b.bin, slot, true
		}
	}
	return 0, 0, false
}

func (p *plain) fork() *plain { return &plain{p.room, slices.Clone(p.all)} }

func (p *plain) order() (int, []int) {
	count, l := 0, []int(nil)
	for _, b := range p.all {
		count += len(b.l)
		l = append(l, b.bin)
	}
	return count, l
}

// wantLike: a cache tells what the plain one does. Where sums are is asked of forks, for asking uses containers.
func wantLike(t *testing.T, c *cache.Cache, p *plain, bins, numbers int) {
	t.Helper()
	count, l := p.order()
	wantBins(t, c, count, l...)
	for bin := range bins {
		if c.Has(bin) != slices.Contains(l, bin) {
			t.Errorf("Has(%d): %v", bin, c.Has(bin))
		}
	}
	asked, askedPlain := c.Fork(), p.fork()
	for n := range numbers {
		if bin, slot, is := askedPlain.find(n); is {
			wantFind(t, asked, n, bin, slot)
		} else {
			wantNone(t, asked, n)
		}
	}
	if t.Failed() {
		t.FailNow()
	}
}

// P10.1
func TestNewWrong(t *testing.T) {
	for _, room := range []int{0, -1, api.MaxCache + 1, math.MinInt, math.MaxInt} {
		if c, e := cache.New(room); c != nil || e != api.ErrArg {
			t.Errorf("New(%d): %v, %d", room, c, e)
		}
	}
}

// P10.1: a cache that remembers none.
func TestNew(t *testing.T) {
	for _, room := range []int{1, 2, api.MaxCache - 1, api.MaxCache} {
		c := made(t, room)
		wantBins(t, c, 0)
		wantNone(t, c, 0)
		if c.Has(0) || c.Clear() != api.OK || c.Drop(0) != api.OK {
			t.Error("of none")
		}
	}
}

// The chapter's example.
func TestExample(t *testing.T) {
	c := made(t, 1)
	put(t, c, 3, 7, 8)
	wantFind(t, c, 8, 3, 1)
	put(t, c, 4, 7)
	wantNone(t, c, 8)
	wantFind(t, c, 7, 4, 0)
}

// P10.1, P2: ErrArg is named ahead of ErrLimit; with an error nothing has changed.
func TestPutWrong(t *testing.T) {
	c := made(t, 2)
	put(t, c, 1, 10)
	put(t, c, 2, 20)
	long := make([]api.Sum, api.MaxSlots+1)
	for _, bin := range []int{-1, api.MaxBins, math.MinInt, math.MaxInt} {
		for _, l := range [][]api.Sum{nil, sums(5), long} {
			if e := c.Put(bin, l); e != api.ErrArg {
				t.Errorf("Put(%d) of %d sums: %d", bin, len(l), e)
			}
		}
		if c.Has(bin) {
			t.Errorf("Has(%d)", bin)
		}
	}
	for _, bin := range []int{0, 1, 3, api.MaxBins - 1} {
		for _, n := range []int{1, 2, 1000} {
			if e := c.Put(bin, make([]api.Sum, api.MaxSlots+n)); e != api.ErrLimit {
				t.Errorf("Put(%d) of too many: %d", bin, e)
			}
		}
	}
	wantBins(t, c, 2, 2, 1)
	wantNone(t, c, 0)
	wantNone(t, c, 5)
	wantFind(t, c, 10, 1, 0)
}

// P10.1: the first and the last container; no sums, and as many as there may be.
func TestPutEdges(t *testing.T) {
	c := made(t, 3)
	var l []int
	for n := range api.MaxSlots {
		l = append(l, 100+n)
	}
	put(t, c, 0, l...)
	put(t, c, api.MaxBins-1, 7)
	wantBins(t, c, api.MaxSlots+1, api.MaxBins-1, 0)
	for slot, n := range l {
		wantFind(t, c, n, 0, slot)
	}
	wantFind(t, c, 7, api.MaxBins-1, 0)
	if c.Put(5, nil) != api.OK {
		t.Error("put without sums")
	}
	wantBins(t, c, api.MaxSlots+1, 5, api.MaxBins-1, 0)
	put(t, c, 6)
	wantBins(t, c, 1, 6, 5, api.MaxBins-1)
	wantNone(t, c, 100)
}

// P10.2: the first slot, where a container has a sum in several, and Sums counts each slot.
func TestFirstSlot(t *testing.T) {
	c := made(t, 2)
	put(t, c, 9, 1, 2, 1, 3, 2, 3, 3)
	wantBins(t, c, 7, 9)
	wantFind(t, c, 1, 9, 0)
	wantFind(t, c, 2, 9, 1)
	wantFind(t, c, 3, 9, 3)
	drop(t, c, 9)
	wantBins(t, c, 0)
	for n := 1; n <= 3; n++ {
		wantNone(t, c, n)
	}
}

// P10.2: of several containers the one that was used last.
func TestUsedLast(t *testing.T) {
	c := made(t, 3)
	put(t, c, 1, 7, 10)
	put(t, c, 2, 20, 7)
	put(t, c, 3, 30, 31)
	wantFind(t, c, 7, 2, 1)
	wantBins(t, c, 6, 2, 3, 1)
	wantFind(t, c, 10, 1, 1)
	wantFind(t, c, 7, 1, 0)
	wantBins(t, c, 6, 1, 2, 3)
	drop(t, c, 1)
	wantFind(t, c, 7, 2, 1)
	put(t, c, 1, 8, 7)
	wantFind(t, c, 7, 1, 1)
	wantBins(t, c, 6, 1, 2, 3)
}

// P10.1: who is forgotten is the one that was used longest ago, by Put or by Find.
func TestUsedLongestAgo(t *testing.T) {
	c := made(t, 2)
	put(t, c, 1, 10)
	put(t, c, 2, 20)
	wantFind(t, c, 10, 1, 0)
	put(t, c, 3, 30)
	wantBins(t, c, 2, 3, 1)
	wantNone(t, c, 20)
	put(t, c, 1, 11)
	wantBins(t, c, 2, 1, 3)
	put(t, c, 4, 40)
	wantBins(t, c, 2, 4, 1)
	wantNone(t, c, 30)
	wantFind(t, c, 11, 1, 0)
}

// P10.2, P2: Has, Bins, Sums, and a Find of none, use no container.
func TestAskingUsesNone(t *testing.T) {
	c := made(t, 2)
	put(t, c, 1, 10)
	put(t, c, 2, 20)
	if !c.Has(1) || c.Has(3) {
		t.Error("Has")
	}
	c.Sums()
	c.Fork().Find(sum(10))
	wantNone(t, c, 99)
	wantBins(t, c, 2, 2, 1)
	put(t, c, 3, 30)
	wantBins(t, c, 2, 3, 2)
}

// P10.1: one that is put anew has what it was put with last, and takes no other one's room.
func TestPutAnew(t *testing.T) {
	c := made(t, 2)
	put(t, c, 1, 10, 11, 12)
	put(t, c, 2, 11, 20)
	put(t, c, 1, 12, 10)
	wantBins(t, c, 4, 1, 2)
	wantFind(t, c, 12, 1, 0)
	wantFind(t, c, 10, 1, 1)
	wantFind(t, c, 11, 2, 0)
	put(t, c, 1)
	wantBins(t, c, 2, 1, 2)
	wantNone(t, c, 10)
	wantNone(t, c, 12)
	wantFind(t, c, 20, 2, 1)
}

// P10.2
func TestDrop(t *testing.T) {
	c := made(t, 3)
	put(t, c, 1, 10, 7)
	put(t, c, 2, 7)
	put(t, c, 3, 30)
	drop(t, c, 2)
	wantBins(t, c, 3, 3, 1)
	if c.Has(2) {
		t.Error("has what was dropped")
	}
	wantFind(t, c, 7, 1, 1)
	for _, bin := range []int{2, 0, -1, api.MaxBins, math.MinInt, math.MaxInt} {
		drop(t, c, bin)
	}
	wantBins(t, c, 3, 1, 3)
	put(t, c, 4, 40)
	wantBins(t, c, 4, 4, 1, 3)
	drop(t, c, 4)
	drop(t, c, 1)
	drop(t, c, 3)
	wantBins(t, c, 0)
	put(t, c, 2, 5)
	wantFind(t, c, 5, 2, 0)
}

// P10.2: behind a Clear it has as much room as ever.
func TestClear(t *testing.T) {
	c := made(t, 2)
	put(t, c, 1, 10)
	put(t, c, 2, 20)
	if c.Clear() != api.OK || c.Has(1) || c.Has(2) {
		t.Error("not cleared")
	}
	wantBins(t, c, 0)
	wantNone(t, c, 10)
	wantNone(t, c, 20)
	for bin := 3; bin <= 5; bin++ {
		put(t, c, bin, 10*bin)
	}
	wantBins(t, c, 2, 5, 4)
	wantFind(t, c, 40, 4, 0)
}

// P10.1 to P10.5: any steps, against the chapter's words; forks stand beside and change nothing.
func TestSteps(t *testing.T) {
	const bins, numbers = 12, 25
	for seed := range int64(200) {
		r := rand.New(rand.NewSource(seed))
		room := 1 + r.Intn(8)
		c, p := made(t, room), &plain{room: room}
		left, leftPlain := c.Fork(), p.fork()
		for range 80 {
			bin := r.Intn(bins)
			switch r.Intn(15) {
			case 0:
				left, leftPlain = c.Fork(), p.fork()
			case 1:
				c, left, p, leftPlain = left, c, leftPlain, p
			case 2:
				drop(t, c, bin)
				p.drop(bin)
			case 3:
				if r.Intn(3) == 0 {
					c.Clear()
					p.all = nil
				}
			case 4, 5, 6, 7:
				n := r.Intn(numbers)
				b, s, is := c.Find(sum(n))
				wantB, wantS, wantIs := p.find(n)
				if b != wantB || s != wantS || is != wantIs {
					t.Fatalf("Find(%d): %d, %d, %v", n, b, s, is)
				}
			default:
				l := make([]int, r.Intn(10))
				for i := range l {
					l[i] = r.Intn(numbers)
				}
				put(t, c, bin, l...)
				p.put(bin, l)
			}
			wantLike(t, c, p, bins, numbers)
			wantLike(t, left, leftPlain, bins, numbers)
		}
	}
}

// P10.3 (B4): of the greatest room, whatever is put; P10.4: what is found was put so last.
func TestBounds(t *testing.T) {
	r := rand.New(rand.NewSource(1))
	c := made(t, api.MaxCache)
	last := map[int][]api.Sum{}
	for range 4 * api.MaxCache {
		bin, l := r.Intn(2*api.MaxCache), make([]api.Sum, api.MaxSlots-r.Intn(2))
		for i := range l {
			l[i] = sum(r.Intn(5000))
		}
		if e := c.Put(bin, l); e != api.OK {
			t.Fatal("Put", e)
		}
		last[bin] = l
		if len(c.Bins()) > api.MaxCache || c.Sums() > api.MaxCache*api.MaxSlots {
			t.Fatal("too much is remembered", len(c.Bins()), c.Sums())
		}
		for range 20 {
			s := sum(r.Intn(5500))
			if bin, slot, is := c.Find(s); is && (!c.Has(bin) || slices.Index(last[bin], s) != slot) {
				t.Fatalf("found in %d, %d: not put there", bin, slot)
			}
		}
	}
	if len(c.Bins()) != api.MaxCache {
		t.Error("less is remembered", len(c.Bins()))
	}
}

// P10.5: what was put last is found, till room other containers were put.
func TestStillFound(t *testing.T) {
	for _, room := range []int{1, 2, 3, 17, api.MaxCache} {
		c := made(t, room)
		for bin := range room {
			put(t, c, bin, bin, 5000)
		}
		put(t, c, 4000, 4000, 4001)
		for n := range room {
			for slot := range 2 {
				wantFind(t, c.Fork(), 4000+slot, 4000, slot)
			}
			// Twice: the container that is put again is no other one.
			put(t, c, 1000+n, 5000+n)
			put(t, c, 1000+n, 5000+n)
		}
		wantNone(t, c, 4000)
		wantNone(t, c, 4001)
	}
}

// P10.2: all of a sum's bytes tell it from others.
func TestEachByteOfASum(t *testing.T) {
	c := made(t, 40)
	put(t, c, 100, 0)
	for i := range len(api.Sum{}) {
		s := api.Sum{}
		s[i] = 1
		if _, _, is := c.Find(s); is {
			t.Errorf("the byte %d plays no part", i)
		}
		c.Put(i, []api.Sum{s})
		if bin, _, is := c.Find(s); bin != i || !is {
			t.Errorf("the byte %d: in %d", i, bin)
		}
	}
	wantFind(t, c, 0, 100, 0)
}

// P10.1, P10.2, P1: of nil.
func TestNil(t *testing.T) {
	var c *cache.Cache
	if c.Put(1, nil) != api.ErrNil || c.Put(-1, make([]api.Sum, 100)) != api.ErrNil || c.Drop(1) != api.ErrNil || c.Clear() != api.ErrNil {
		t.Error("nil is changed")
	}
	wantNone(t, c, 0)
	wantBins(t, c, 0)
	if c.Has(0) || c.Has(1) || c.Fork() != nil {
		t.Error("nil tells something")
	}
}

// P1: a struct that no call made only does not panic.
func TestNotMade(t *testing.T) {
	c := new(cache.Cache)
	c.Put(1, sums(1, 2))
	c.Put(1, nil)
	c.Find(sum(1))
	c.Drop(1)
	c.Clear()
	c.Put(2, sums(3))
	wantNone(t, c, 9)
	if o := c.Fork(); o.Has(9) || len(o.Bins()) != len(c.Bins()) || o.Sums() != c.Sums() {
		t.Error("a fork of one that no call made is unlike")
	}
}

// P10.2, P4
func TestFork(t *testing.T) {
	c := made(t, 2)
	put(t, c, 1, 10, 7)
	put(t, c, 2, 7, 20)
	wantFind(t, c, 10, 1, 0)
	d := c.Fork()
	if c == d {
		t.Fatal("a fork is itself")
	}
	wantBins(t, d, 4, 1, 2)
	put(t, d, 3, 30)
	wantBins(t, d, 3, 3, 1)
	wantBins(t, c, 4, 1, 2)
	wantFind(t, c, 20, 2, 1)
	wantFind(t, c, 7, 2, 0)
	wantFind(t, d, 7, 1, 1)
	drop(t, c, 1)
	wantFind(t, d, 10, 1, 0)
	e := d.Fork()
	d.Clear()
	wantBins(t, e, 3, 1, 3)
	wantFind(t, e, 30, 3, 0)
	c.Clear()
	put(t, e, 1, 7)
	wantNone(t, c, 7)
	wantNone(t, d, 7)
	wantFind(t, e, 7, 1, 0)
}

// P3: what is handed in stays as it is, with the room behind it, and is not kept.
func TestHandedIn(t *testing.T) {
	c := made(t, 2)
	room := sums(1, 2, 1, 3, 4, 5)
	kept := slices.Clone(room)
	if c.Put(1, room[:4]) != api.OK || !slices.Equal(room, kept) {
		t.Error("what is handed in is changed")
	}
	wantNone(t, c, 4)
	clear(room)
	d := c.Fork()
	wantFind(t, d, 3, 1, 3)
	wantNone(t, d, 0)
	// To forget it, what it was put with is asked.
	drop(t, c, 1)
	for n := range 6 {
		wantNone(t, c, n)
	}
	put(t, c, 1, 9)
	wantNone(t, c, 3)
	if !slices.Equal(room, make([]api.Sum, 6)) {
		t.Error("what was handed in is changed later")
	}
}

// P3: answers are new memory, with the room behind them.
func TestMemory(t *testing.T) {
	c := made(t, 3)
	put(t, c, 1, 10)
	put(t, c, 2, 20)
	l := c.Bins()
	full := l[:cap(l)]
	for i := range full {
		full[i] = 99
	}
	wantBins(t, c, 2, 2, 1)
	put(t, c, 3, 30)
	if slices.ContainsFunc(full, func(n int) bool { return n != 99 }) {
		t.Error("an answer is changed by a Put")
	}
}

// P6: caches know nothing of each other.
func TestApart(t *testing.T) {
	c, d := made(t, 2), made(t, 2)
	put(t, c, 1, 10)
	wantBins(t, d, 0)
	wantNone(t, d, 10)
	d.Clear()
	drop(t, d, 1)
	wantFind(t, c, 10, 1, 0)
}
