package extent_test

import (
	"math"
	"math/rand"
	"slices"
	"testing"

	"aumbry/api"
	"aumbry/extent"
)

// The signatures that the chapter lists.
var (
	_ func(int, int) (*extent.Map, api.Errno) = extent.New
	_ func(*extent.Map, int) (int, api.Errno) = (*extent.Map).Take
	_ func(*extent.Map, api.Run) api.Errno    = (*extent.Map).Claim
	_ func(*extent.Map, api.Run) api.Errno    = (*extent.Map).Give
	_ func(*extent.Map) int                   = (*extent.Map).Free
	_ func(*extent.Map) int                   = (*extent.Map).Most
	_ func(*extent.Map) []api.Run             = (*extent.Map).Runs
	_ func(*extent.Map) *extent.Map           = (*extent.Map).Fork
)

func made(t *testing.T, from, to int) *extent.Map {
	t.Helper()
	m, e := extent.New(from, to)
	if e != api.OK || m == nil {
		t.Fatalf("New(%d, %d): %d", from, to, e)
	}
	return m
}

// wantRuns: the free ones are these runs, and Free and Most say so too.
func wantRuns(t *testing.T, m *extent.Map, want ...api.Run) {
	t.Helper()
	free, most := 0, 0
	for _, r := range want {
		free += r.N
		most = max(most, r.N)
	}
	if l := m.Runs(); !slices.Equal(l, want) || m.Free() != free || m.Most() != most {
		t.Errorf("free are %v: %d, at most %d; want %v: %d, %d", l, m.Free(), m.Most(), want, free, most)
	}
}

func wantErrno(t *testing.T, what string, got, want api.Errno) {
	t.Helper()
	if got != want {
		t.Errorf("%s answers %d, want %d", what, got, want)
	}
}

func wantTake(t *testing.T, m *extent.Map, n, at int, want api.Errno) {
	t.Helper()
	if got, e := m.Take(n); got != at || e != want {
		t.Errorf("Take(%d) answers %d, %d; want %d, %d", n, got, e, at, want)
	}
}

func claim(t *testing.T, m *extent.Map, at, n int, want api.Errno) {
	t.Helper()
	wantErrno(t, "Claim", m.Claim(api.Run{At: at, N: n}), want)
}

func give(t *testing.T, m *extent.Map, at, n int, want api.Errno) {
	t.Helper()
	wantErrno(t, "Give", m.Give(api.Run{At: at, N: n}), want)
}

// P4.1
func TestNew(t *testing.T) {
	for _, c := range [][2]int{{-1, 3}, {math.MinInt, 3}, {math.MinInt, math.MaxInt}, {4, 3}, {1, 0}, {0, -1}, {-2, -1}, {0, api.MaxSectors + 1}, {0, math.MaxInt}, {api.MaxSectors + 1, api.MaxSectors + 1}, {math.MaxInt, math.MinInt}} {
		if m, e := extent.New(c[0], c[1]); m != nil || e != api.ErrArg {
			t.Errorf("New(%d, %d): %v, %d", c[0], c[1], m, e)
		}
	}
	for _, c := range [][2]int{{0, 1}, {2, 6}, {0, api.MaxSectors}, {api.MaxSectors - 1, api.MaxSectors}} {
		wantRuns(t, made(t, c[0], c[1]), api.Run{At: c[0], N: c[1] - c[0]})
	}
}

// P4.1, P4.2: a map of no sectors.
func TestNoSectors(t *testing.T) {
	for _, at := range []int{0, 5, api.MaxSectors} {
		m := made(t, at, at)
		wantRuns(t, m)
		wantTake(t, m, 1, 0, api.ErrSpace)
		claim(t, m, at, 1, api.ErrArg)
		claim(t, m, at, 0, api.ErrArg)
		give(t, m, at, 1, api.ErrArg)
		wantRuns(t, m.Fork())
	}
}

// P4.1, P4.2: of nil.
func TestNil(t *testing.T) {
	var m *extent.Map
	if len(m.Runs()) != 0 || m.Free() != 0 || m.Most() != 0 || m.Fork() != nil {
		t.Error("a nil map tells something")
	}
	wantTake(t, m, 0, 0, api.ErrNil)
	wantTake(t, m, 1, 0, api.ErrNil)
	claim(t, m, -1, 0, api.ErrNil)
	give(t, m, -1, 0, api.ErrNil)
}

// P1: a struct that no call made only does not panic.
func TestNotMade(t *testing.T) {
	m := new(extent.Map)
	m.Take(1)
	m.Claim(api.Run{N: 1})
	m.Give(api.Run{N: 1})
	if f := m.Fork(); f.Free() != 0 || f.Most() != 0 || len(f.Runs()) != 0 {
		t.Error("sectors of a map that no call made")
	}
}

// The chapter's example.
func TestExample(t *testing.T) {
	m := made(t, 2, 6)
	wantTake(t, m, 2, 2, api.OK)
	claim(t, m, 5, 1, api.OK)
	wantTake(t, m, 2, 0, api.ErrSpace)
	wantRuns(t, m, api.Run{At: 4, N: 1})
}

// P4.2
func TestTake(t *testing.T) {
	m := made(t, 10, 30)
	for _, n := range []int{0, -1, math.MinInt} {
		wantTake(t, m, n, 0, api.ErrArg)
	}
	for _, n := range []int{21, math.MaxInt} {
		wantTake(t, m, n, 0, api.ErrSpace)
	}
	wantRuns(t, m, api.Run{At: 10, N: 20})
	wantTake(t, m.Fork(), 20, 10, api.OK)
	claim(t, m, 12, 1, api.OK)
	claim(t, m, 16, 2, api.OK)
	claim(t, m, 21, 4, api.OK)
	wantRuns(t, m, api.Run{At: 10, N: 2}, api.Run{At: 13, N: 3}, api.Run{At: 18, N: 3}, api.Run{At: 25, N: 5})
	wantTake(t, m, 3, 13, api.OK)
	wantRuns(t, m, api.Run{At: 10, N: 2}, api.Run{At: 18, N: 3}, api.Run{At: 25, N: 5})
	wantTake(t, m, 6, 0, api.ErrSpace)
	wantTake(t, m, 4, 25, api.OK)
	wantTake(t, m, 1, 10, api.OK)
	wantTake(t, m, 2, 18, api.OK)
	wantTake(t, m, 2, 0, api.ErrSpace)
	wantRuns(t, m, api.Run{At: 11, N: 1}, api.Run{At: 20, N: 1}, api.Run{At: 29, N: 1})
	for _, at := range []int{11, 20, 29} {
		wantTake(t, m, 1, at, api.OK)
	}
	wantTake(t, m, 1, 0, api.ErrSpace)
	wantRuns(t, m)
}

// outside are runs that have no sector, or one that is not the map's, of a map from 10 to 20.
var outside = []api.Run{
	{At: 10, N: 0}, {At: 10, N: -1}, {At: 15, N: math.MinInt}, {At: 9, N: 1}, {At: 9, N: 2}, {At: 20, N: 1}, {At: 20, N: 0}, {At: 19, N: 2}, {At: 10, N: 11},
	{At: 10, N: math.MaxInt}, {At: 19, N: math.MaxInt}, {At: math.MaxInt, N: 1}, {At: math.MaxInt, N: math.MaxInt}, {At: math.MinInt, N: math.MaxInt}, {At: math.MinInt, N: math.MinInt}, {At: -1, N: 15}, {At: 21, N: -5}, {},
}

// P4.2
func TestClaim(t *testing.T) {
	m := made(t, 10, 20)
	for _, r := range outside {
		wantErrno(t, "Claim", m.Claim(r), api.ErrArg)
	}
	wantRuns(t, m, api.Run{At: 10, N: 10})
	claim(t, m.Fork(), 10, 10, api.OK)
	claim(t, m, 12, 3, api.OK)
	wantRuns(t, m, api.Run{At: 10, N: 2}, api.Run{At: 15, N: 5})
	for _, r := range []api.Run{{At: 12, N: 3}, {At: 13, N: 1}, {At: 11, N: 2}, {At: 14, N: 2}, {At: 10, N: 10}, {At: 11, N: 5}} {
		wantErrno(t, "Claim", m.Claim(r), api.ErrKnown)
	}
	for _, r := range outside {
		wantErrno(t, "Claim", m.Claim(r), api.ErrArg)
	}
	wantRuns(t, m, api.Run{At: 10, N: 2}, api.Run{At: 15, N: 5})
	claim(t, m, 10, 1, api.OK)
	claim(t, m, 19, 1, api.OK)
	claim(t, m, 15, 1, api.OK)
	wantRuns(t, m, api.Run{At: 11, N: 1}, api.Run{At: 16, N: 3})
	claim(t, m, 11, 1, api.OK)
	claim(t, m, 16, 3, api.OK)
	wantRuns(t, m)
	claim(t, m, 10, 1, api.ErrKnown)
}

// P4.2
func TestGive(t *testing.T) {
	m := made(t, 10, 20)
	give(t, m, 10, 10, api.ErrGone)
	give(t, m, 15, 1, api.ErrGone)
	wantTake(t, m, 10, 10, api.OK)
	for _, r := range outside {
		wantErrno(t, "Give", m.Give(r), api.ErrArg)
	}
	wantRuns(t, m)
	give(t, m, 14, 2, api.OK)
	for _, r := range []api.Run{{At: 14, N: 2}, {At: 14, N: 1}, {At: 15, N: 1}, {At: 13, N: 2}, {At: 15, N: 2}, {At: 10, N: 10}, {At: 13, N: 4}} {
		wantErrno(t, "Give", m.Give(r), api.ErrGone)
	}
	for _, r := range outside {
		wantErrno(t, "Give", m.Give(r), api.ErrArg)
	}
	wantRuns(t, m, api.Run{At: 14, N: 2})
	give(t, m, 10, 1, api.OK)
	give(t, m, 19, 1, api.OK)
	wantRuns(t, m, api.Run{At: 10, N: 1}, api.Run{At: 14, N: 2}, api.Run{At: 19, N: 1})
	give(t, m, 13, 1, api.OK)
	wantRuns(t, m, api.Run{At: 10, N: 1}, api.Run{At: 13, N: 3}, api.Run{At: 19, N: 1})
	give(t, m, 16, 1, api.OK)
	wantRuns(t, m, api.Run{At: 10, N: 1}, api.Run{At: 13, N: 4}, api.Run{At: 19, N: 1})
	give(t, m, 17, 2, api.OK)
	wantRuns(t, m, api.Run{At: 10, N: 1}, api.Run{At: 13, N: 7})
	give(t, m, 11, 2, api.OK)
	wantRuns(t, m, api.Run{At: 10, N: 10})
}

// P4.2: a run may be given in parts, and of several that were taken at once.
func TestGiveOtherwiseThanTaken(t *testing.T) {
	m := made(t, 0, 9)
	for range 3 {
		m.Take(3)
	}
	give(t, m, 1, 1, api.OK)
	give(t, m, 2, 6, api.OK)
	wantRuns(t, m, api.Run{At: 1, N: 7})
}

// P3 of the rules: what is answered is new memory.
func TestMemory(t *testing.T) {
	m := made(t, 0, 9)
	claim(t, m, 3, 1, api.OK)
	l := m.Runs()
	l[0] = api.Run{At: 7, N: 70}
	_ = append(l[:1], api.Run{At: 8, N: 80})
	wantRuns(t, m, api.Run{At: 0, N: 3}, api.Run{At: 4, N: 5})
}

// P4 of the rules, P4.1
func TestFork(t *testing.T) {
	m := made(t, 0, 9)
	claim(t, m, 3, 1, api.OK)
	claim(t, m, 5, 1, api.OK)
	f := m.Fork()
	give(t, m, 3, 1, api.OK)
	give(t, m, 5, 1, api.OK)
	wantTake(t, m, 1, 0, api.OK)
	wantRuns(t, f, api.Run{At: 0, N: 3}, api.Run{At: 4, N: 1}, api.Run{At: 6, N: 3})
	wantTake(t, f, 3, 0, api.OK)
	claim(t, f, 7, 1, api.OK)
	claim(t, f, 9, 1, api.ErrArg)
	wantRuns(t, f, api.Run{At: 4, N: 1}, api.Run{At: 6, N: 1}, api.Run{At: 8, N: 1})
	wantRuns(t, m, api.Run{At: 1, N: 8})
}

// plain is a map as the chapter's words have it: which of the sectors from from on are free.
type plain struct {
	from int
	free []bool
}

func newPlain(from, to int) *plain {
	return &plain{from, slices.Repeat([]bool{true}, to-from)}
}

// all: is each sector of the run free, or taken, as is asked?
func (p *plain) all(at, n int, free bool) bool {
	for _, is := range p.free[at-p.from : at-p.from+n] {
		if is != free {
			return false
		}
	}
	return true
}

func (p *plain) has(at, n int) bool {
	return n > 0 && at >= p.from && at+n <= p.from+len(p.free)
}

func (p *plain) turn(at, n int, free bool) {
	for i := range n {
		p.free[at-p.from+i] = free
	}
}

func (p *plain) change(at, n int, free bool, otherwise api.Errno) api.Errno {
	if !p.has(at, n) {
		return api.ErrArg
	}
	if !p.all(at, n, !free) {
		return otherwise
	}
	p.turn(at, n, free)
	return api.OK
}

// take: P4.5, the first place where n are free, with none ahead.
func (p *plain) take(n int) (int, api.Errno) {
	if n < 1 {
		return 0, api.ErrArg
	}
	for at := p.from; p.has(at, n); at++ {
		if p.all(at, n, true) {
			p.turn(at, n, false)
			return at, api.OK
		}
	}
	return 0, api.ErrSpace
}

func (p *plain) runs() []api.Run {
	var l []api.Run
	for i, free := range p.free {
		switch {
		case !free:
		case i > 0 && p.free[i-1]:
			l[len(l)-1].N++
		default:
			l = append(l, api.Run{At: p.from + i, N: 1})
		}
	}
	return l
}

// P4.1 to P4.5: whatever is taken, claimed and given, the map is what the chapter's words say.
func TestSteps(t *testing.T) {
	for seed := range int64(200) {
		r := rand.New(rand.NewSource(seed))
		from := r.Intn(5)
		to := from + r.Intn(30)
		m, p := made(t, from, to), newPlain(from, to)
		left, leftRuns := m.Fork(), p.runs()
		for range 200 {
			at, n := r.Intn(to+3)-1, r.Intn(6)
			switch r.Intn(6) {
			case 0, 1:
				want, e := p.take(n)
				wantTake(t, m, n, want, e)
			case 2:
				claim(t, m, at, n, p.change(at, n, false, api.ErrKnown))
			case 3, 4:
				give(t, m, at, n, p.change(at, n, true, api.ErrGone))
			case 5:
				left, leftRuns = m.Fork(), p.runs()
			}
			wantRuns(t, m, p.runs()...)
			wantRuns(t, left, leftRuns...)
			if t.Failed() {
				t.Fatalf("seed %d", seed)
			}
		}
	}
}

// P4.3: what is taken is no one else's till it is given. P4.4: given again, in whatever order, the map is as it was.
func TestGivenAgain(t *testing.T) {
	for seed := range int64(100) {
		r := rand.New(rand.NewSource(seed))
		m := made(t, 3, 60)
		for range r.Intn(8) {
			m.Claim(api.Run{At: 3 + r.Intn(57), N: 1 + r.Intn(4)})
		}
		before := m.Runs()
		owner := map[int]int{}
		var taken []api.Run
		for k := range 30 {
			n := 1 + r.Intn(5)
			at, e := m.Take(n)
			if e != api.OK {
				continue
			}
			for i := range n {
				if _, ok := owner[at+i]; ok {
					t.Fatalf("the sector %d is taken twice", at+i)
				}
				owner[at+i] = k
			}
			taken = append(taken, api.Run{At: at, N: n})
		}
		r.Shuffle(len(taken), func(i, j int) { taken[i], taken[j] = taken[j], taken[i] })
		for _, run := range taken {
			wantErrno(t, "Give", m.Give(run), api.OK)
		}
		wantRuns(t, m, before...)
	}
}
