package bloom_test

import (
	"math/rand"
	"testing"

	"aumbry/api"
	"aumbry/bloom"
)

// The signatures that the chapter lists.
var (
	_ func(int, int) (*bloom.Filter, api.Errno)    = bloom.New
	_ func(*bloom.Filter, api.Sum) api.Errno       = (*bloom.Filter).Add
	_ func(*bloom.Filter, api.Sum) bool            = (*bloom.Filter).Has
	_ func(*bloom.Filter) int                      = (*bloom.Filter).Ones
	_ func(*bloom.Filter) int                      = (*bloom.Filter).Size
	_ func(*bloom.Filter, *bloom.Filter) api.Errno = (*bloom.Filter).Merge
	_ func(*bloom.Filter) api.Errno                = (*bloom.Filter).Clear
	_ func(*bloom.Filter) *bloom.Filter            = (*bloom.Filter).Fork
	_ func(api.Sum, int, int) []int                = bloom.Places
)

func made(t *testing.T, size, ways int) *bloom.Filter {
	t.Helper()
	f, e := bloom.New(size, ways)
	if f == nil || e != api.OK {
		t.Fatalf("New(%d, %d): %d", size, ways, e)
	}
	return f
}

// at is a sum whose places begin at at, each one behind the last.
func at(at uint16) api.Sum {
	return api.Sum{4: byte(at >> 8), 5: byte(at), 11: 1}
}

func randomSums(r *rand.Rand, n int) []api.Sum {
	l := make([]api.Sum, n)
	for i := range l {
		r.Read(l[i][:])
	}
	return l
}

func add(t *testing.T, f *bloom.Filter, sums ...api.Sum) {
	t.Helper()
	for _, s := range sums {
		if e := f.Add(s); e != api.OK {
			t.Fatal("Add", e)
		}
	}
}

// plain is a summary by the chapter's words: the places of the bits that are on.
type plain struct {
	size, ways int
	on         map[int]bool
}

func newPlain(size, ways int) *plain { return &plain{size, ways, map[int]bool{}} }

func (p *plain) add(s api.Sum) {
	for _, at := range bloom.Places(s, p.size, p.ways) {
		p.on[at] = true
	}
}

func (p *plain) has(s api.Sum) bool {
	for _, at := range bloom.Places(s, p.size, p.ways) {
		if !p.on[at] {
			return false
		}
	}
	return true
}

func (p *plain) fork() *plain {
	other := newPlain(p.size, p.ways)
	for at := range p.on {
		other.on[at] = true
	}
	return other
}

// wantLike: a summary tells what the plain one does, of each of these sums.
func wantLike(t *testing.T, f *bloom.Filter, p *plain, sums []api.Sum) {
	t.Helper()
	if f.Size() != p.size || f.Ones() != len(p.on) {
		t.Fatalf("%d of %d bits are on; want %d of %d", f.Ones(), f.Size(), len(p.on), p.size)
	}
	for _, s := range sums {
		if f.Has(s) != p.has(s) {
			t.Fatalf("of %d bits, %d ways: Has(%x): %v", p.size, p.ways, s, f.Has(s))
		}
	}
}

// P8.1: a new one has all bits off, at all sizes.
func TestNew(t *testing.T) {
	sums := randomSums(rand.New(rand.NewSource(1)), 50)
	for _, size := range sizes {
		for ways := 1; ways <= api.MaxWays; ways++ {
			wantLike(t, made(t, size, ways), newPlain(size, ways), append(sums, api.Sum{}))
		}
	}
}

// P8.2: just the bits at a sum's places are on, each bit of all sizes.
func TestEachBit(t *testing.T) {
	for _, size := range []int{1, 63, 64, 65, 130, 1000} {
		f := made(t, size, 1)
		for i := range size {
			if f.Has(at(uint16(i))) {
				t.Fatalf("of %d bits: %d is on ahead", size, i)
			}
			add(t, f, at(uint16(i)))
			if !f.Has(at(uint16(i))) || f.Ones() != i+1 {
				t.Fatalf("of %d bits: %d is not on, or others", size, i)
			}
		}
	}
	f := made(t, api.MaxBloom, 1)
	add(t, f, at(0), at(api.MaxBloom-1))
	if f.Ones() != 2 || !f.Has(at(0)) || !f.Has(at(api.MaxBloom-1)) || f.Has(at(1)) || f.Has(at(api.MaxBloom-2)) {
		t.Error("the first and the last bit")
	}
}

// P8.2: all places count, not some.
func TestHasAll(t *testing.T) {
	f := made(t, 100, 3)
	add(t, f, at(10)) // 10, 11, 12
	for i, want := range map[uint16]bool{10: true, 8: false, 9: false, 11: false, 12: false, 13: false, 50: false} {
		if f.Has(at(i)) != want {
			t.Errorf("places from %d on: %v", i, !want)
		}
	}
	add(t, f, at(13)) // and 13, 14, 15: whoever has places among these is found, too
	if !f.Has(at(11)) || !f.Has(at(12)) || f.Has(at(14)) || f.Ones() != 6 {
		t.Error("places of two")
	}
	// Two places that are one turn one bit on.
	g := made(t, 100, 3)
	add(t, g, api.Sum{5: 7})
	if g.Ones() != 1 || !g.Has(api.Sum{5: 7}) {
		t.Error("places that are one", g.Ones())
	}
}

// P8.2 to P8.5: any steps, against the chapter's words; forks stand beside and change nothing.
func TestSteps(t *testing.T) {
	for seed := range int64(150) {
		r := rand.New(rand.NewSource(seed))
		size, ways := sizes[r.Intn(len(sizes)-3)], 1+r.Intn(api.MaxWays)
		sums := randomSums(r, 30)
		f, p := made(t, size, ways), newPlain(size, ways)
		left, leftPlain := f.Fork(), p.fork()
		for range 60 {
			switch r.Intn(10) {
			case 0:
				left, leftPlain = f.Fork(), p.fork()
			case 1:
				f, left, p, leftPlain = left, f, leftPlain, p
			case 2:
				if e := f.Merge(left); e != api.OK {
					t.Fatal("Merge", e)
				}
				for at := range leftPlain.on {
					p.on[at] = true
				}
			case 3:
				if r.Intn(3) == 0 {
					if e := f.Clear(); e != api.OK {
						t.Fatal("Clear", e)
					}
					clear(p.on)
				}
			default:
				s := sums[r.Intn(len(sums))]
				before := f.Ones()
				add(t, f, s)
				p.add(s)
				if n := f.Ones() - before; n < 0 || n > ways {
					t.Fatalf("P8.5: %d bits more are on, by %d ways", n, ways)
				}
			}
			wantLike(t, f, p, sums)
			wantLike(t, left, leftPlain, sums)
		}
	}
}

// P8.3: whoever was added is found, whatever else is added, till it is cleared.
func TestAddedIsFound(t *testing.T) {
	r := rand.New(rand.NewSource(3))
	for _, size := range []int{1, 10, 64, 999, api.MaxBloom} {
		f, sums := made(t, size, 5), randomSums(r, 200)
		for i, s := range sums {
			add(t, f, s)
			for _, ahead := range sums[:i+1] {
				if !f.Has(ahead) {
					t.Fatalf("of %d bits: one of %d is lost", size, i+1)
				}
			}
		}
		if f.Clear() != api.OK || f.Ones() != 0 || f.Size() != size {
			t.Fatal("not cleared")
		}
		for _, s := range sums {
			if f.Has(s) {
				t.Fatal("found behind a Clear")
			}
		}
		add(t, f, sums[0])
		if !f.Has(sums[0]) {
			t.Fatal("not found behind a Clear and an Add")
		}
	}
}

// Others are found seldom: of few sums among many bits.
func TestOthersSeldom(t *testing.T) {
	r := rand.New(rand.NewSource(4))
	f := made(t, 1<<14, 4)
	add(t, f, randomSums(r, 500)...)
	found := 0
	for _, s := range randomSums(r, 2000) {
		if f.Has(s) {
			found++
		}
	}
	if found > 20 {
		t.Error("found", found)
	}
}

// P8.4: in which order sums are added plays no part, and to add one twice changes nothing.
func TestOrderAndTwice(t *testing.T) {
	r := rand.New(rand.NewSource(5))
	for range 50 {
		sums, others := randomSums(r, 40), randomSums(r, 300)
		f, g := made(t, 500, 4), made(t, 500, 4)
		add(t, f, sums...)
		ones := f.Ones()
		add(t, f, sums...)
		if f.Ones() != ones {
			t.Fatal("twice turns more on")
		}
		r.Shuffle(len(sums), func(i, j int) { sums[i], sums[j] = sums[j], sums[i] })
		add(t, g, sums...)
		if g.Ones() != ones {
			t.Fatal("another order turns others on")
		}
		for _, s := range append(others, sums...) {
			if f.Has(s) != g.Has(s) {
				t.Fatal("another order finds others")
			}
		}
	}
}

// P8.2
func TestMerge(t *testing.T) {
	f, g := made(t, 200, 2), made(t, 200, 2)
	add(t, f, at(10))
	add(t, g, at(11), at(199))
	if f.Merge(g) != api.OK || f.Ones() != 5 || !f.Has(at(10)) || !f.Has(at(11)) || !f.Has(at(199)) {
		t.Error("what both have is not on")
	}
	if g.Ones() != 4 || g.Has(at(10)) {
		t.Error("what is merged is changed")
	}
	// Later what becomes of the one is nothing to the other one.
	add(t, g, at(50))
	if f.Has(at(50)) {
		t.Error("what was merged goes on")
	}
	f.Clear()
	if !g.Has(at(50)) || !g.Has(at(199)) {
		t.Error("what was merged is cleared")
	}
	if g.Merge(g) != api.OK || g.Ones() != 6 {
		t.Error("with itself", g.Ones())
	}
	if e := g.Merge(f); e != api.OK || g.Ones() != 6 {
		t.Error("with none", e, g.Ones())
	}
}

// P8.2, P2: ErrNil is named ahead of ErrArg; with an error nothing has changed.
func TestMergeWrong(t *testing.T) {
	f := made(t, 200, 2)
	add(t, f, at(10))
	for _, c := range [][2]int{{199, 2}, {201, 2}, {200, 1}, {200, 3}, {192, 2}, {256, 2}, {1, 8}, {8, 1}} {
		g := made(t, c[0], c[1])
		add(t, g, at(50))
		ones := g.Ones()
		if f.Merge(g) != api.ErrArg || g.Merge(f) != api.ErrArg {
			t.Errorf("merged with one of %v", c)
		}
		if f.Ones() != 2 || f.Has(at(50)) || g.Ones() != ones || f.Size() != 200 || g.Size() != c[0] {
			t.Errorf("changed by one of %v", c)
		}
	}
	if f.Merge(nil) != api.ErrNil || f.Ones() != 2 || (*bloom.Filter)(nil).Merge(f) != api.ErrNil {
		t.Error("merged with nil")
	}
}

// P8.2, P1: of nil.
func TestNil(t *testing.T) {
	var f *bloom.Filter
	if f.Add(at(1)) != api.ErrNil || f.Merge(nil) != api.ErrNil || f.Clear() != api.ErrNil {
		t.Error("nil is changed")
	}
	if f.Has(at(1)) || f.Has(api.Sum{}) || f.Ones() != 0 || f.Size() != 0 || f.Fork() != nil {
		t.Error("nil tells something")
	}
}

// P1: a struct that no call made only does not panic.
func TestNotMade(t *testing.T) {
	f, g := new(bloom.Filter), made(t, 8, 1)
	f.Add(at(1))
	f.Has(at(1))
	f.Merge(g)
	g.Merge(f)
	f.Merge(new(bloom.Filter))
	f.Clear()
	if o := f.Fork(); o.Ones() != 0 || o.Size() != 0 {
		t.Error("bits of one that no call made")
	}
}

// P8.2, P4
func TestFork(t *testing.T) {
	f := made(t, 300, 2)
	add(t, f, at(10), at(250))
	g := f.Fork()
	if g == f || g.Size() != 300 || g.Ones() != 4 || !g.Has(at(10)) || !g.Has(at(250)) || g.Has(at(20)) {
		t.Error("a fork is unlike")
	}
	add(t, f, at(20))
	add(t, g, at(30))
	if g.Has(at(20)) || f.Has(at(30)) {
		t.Error("added to both")
	}
	f.Clear()
	if !g.Has(at(10)) || g.Ones() != 6 || f.Ones() != 0 {
		t.Error("cleared both")
	}
	h := g.Fork()
	g.Clear()
	if h.Ones() != 6 || h.Merge(g) != api.OK || h.Ones() != 6 || g.Merge(h) != api.OK || g.Ones() != 6 {
		t.Error("a fork's fork")
	}
	// Of as many ways: what is added to a fork has as many places.
	add(t, h, at(100))
	if h.Ones() != 8 {
		t.Error("other ways", h.Ones())
	}
}

// P6: summaries know nothing of each other.
func TestApart(t *testing.T) {
	f, g := made(t, 300, 2), made(t, 300, 2)
	add(t, f, at(10))
	if g.Ones() != 0 || g.Has(at(10)) {
		t.Error("one knows what another one has")
	}
	g.Clear()
	if !f.Has(at(10)) {
		t.Error("one is cleared with another one")
	}
}
