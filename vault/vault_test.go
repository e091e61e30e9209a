package vault_test

import (
	"bytes"
	"fmt"
	"math"
	"slices"
	"strings"
	"testing"

	"aumbry/api"
	"aumbry/digest"
	"aumbry/gear"
	"aumbry/ingest"
	"aumbry/model"
	"aumbry/pack"
	"aumbry/vault"
)

// P19.1: what a layout may be, and what not.
func TestCheck(t *testing.T) {
	least := layout()
	least.Area, least.Sectors, least.Quota = 8, 2+16+16, 0
	most := layout()
	most.Area, most.Sectors, most.Quota = 600, 4096, math.MaxInt
	for _, c := range []api.Config{layout(), least, most} {
		if e := vault.Check(c); e != api.OK {
			t.Errorf("%+v: %d", c, e)
		}
		if v, e := vault.New(c); e != api.OK || !v.Up() {
			t.Errorf("%+v: %d", c, e)
		}
	}
	for i, change := range []func(c *api.Config){
		func(c *api.Config) { *c = api.Config{} },
		func(c *api.Config) { c.Tune.Cut.Min = 31 },
		func(c *api.Config) { c.Tune.Cut.Max = 513 },
		func(c *api.Config) { c.Tune.Seed = -1 },
		func(c *api.Config) { c.Tune.Wide = 65 },
		func(c *api.Config) { c.Tune.Seg = 0 },
		func(c *api.Config) { c.Tune.Champs = 9 },
		func(c *api.Config) { c.Tune.Cache = 0 },
		func(c *api.Config) { c.Quota = -1 },
		func(c *api.Config) { c.Quota = math.MinInt },
		func(c *api.Config) { c.Area = 7 },
		func(c *api.Config) { c.Area, c.Sectors = 601, 4096 },
		func(c *api.Config) { c.Area = math.MaxInt },
		func(c *api.Config) { c.Area = math.MinInt },
		func(c *api.Config) { c.Sectors = 4097 },
		func(c *api.Config) { c.Sectors = 2 + 2*c.Area + c.Tune.Wide - 1 },
		func(c *api.Config) { c.Sectors = 0 },
		func(c *api.Config) { c.Sectors = -1 },
		func(c *api.Config) { c.Sectors = math.MaxInt },
		func(c *api.Config) { c.Sectors = math.MinInt },
	} {
		c := layout()
		change(&c)
		v, e := vault.New(c)
		if vault.Check(c) != api.ErrArg || e != api.ErrArg || v != nil || vault.Most(c) != 0 {
			t.Error(i, vault.Check(c), e, vault.Most(c))
		}
	}
	c := layout()
	c.Tune.Cut.Min, c.Sectors = 32, 2+2*c.Area+c.Tune.Wide
	if vault.Check(c) != api.OK {
		t.Error("just enough")
	}
}

// P19.7: what can be held at most.
func TestMost(t *testing.T) {
	c := layout()
	if n := vault.Most(c); n != ingest.Most(c.Tune)+4*(8+64) || n != 1<<14+500+64*16+4*72 {
		t.Error(n)
	}
}

// P19.1, P19.7: a new appliance is mounted, and has nothing.
func TestNew(t *testing.T) {
	v := appliance(t, layout())
	if !v.Up() || v.Used() != 0 || len(v.Places()) != 0 || len(v.Live()) != 0 || v.Entries() != 1<<14 {
		t.Fatal(v.Up(), v.Used(), v.Places(), v.Live(), v.Entries())
	}
	refuses(t, v, api.Op{Do: api.Mount}, api.ErrState)
	if a := done(t, v, api.Op{Do: api.List}); len(a.Names) != 0 {
		t.Fatal(a)
	}
	for i := range 2 + 2*120 {
		if b, e := v.Sector(i); e != api.OK || len(b) != api.Sector {
			t.Fatal(i, b, e)
		}
	}
	for i := 2 + 2*120; i < 900; i++ {
		if b, e := v.Sector(i); e != api.OK || !bytes.Equal(b, make([]byte, api.Sector)) {
			t.Fatal("a sector behind the journal", i, b, e)
		}
	}
	for _, i := range []int{-1, 900, math.MaxInt, math.MinInt} {
		if b, e := v.Sector(i); e != api.ErrArg || b != nil {
			t.Fatal(i, b, e)
		}
	}
}

// P1, P19.2, P19.7: nil, and one that no call made.
func TestNil(t *testing.T) {
	for _, v := range []*vault.Vault{nil, {}} {
		for do := api.NoDo - 1; do <= api.Rot+1; do++ {
			refuses(t, v, api.Op{Do: do, N: 1, Name: "a"}, api.ErrNil)
		}
		b, e := v.Sector(0)
		if b != nil || e != api.ErrNil || v.Up() || v.Used() != 0 || v.Places() != nil || v.Live() != nil || v.Entries() != 0 {
			t.Error("something of nil", b, e)
		}
	}
}

// P19.2: the order of errors: none, then what goes without power, then down, then as the model says.
func TestOrderOfErrors(t *testing.T) {
	v := appliance(t, layout())
	put(t, v, "a", noise(1, 300))
	for _, do := range []api.Do{api.NoDo, -1, api.Rot + 1, math.MaxInt, math.MinInt} {
		refuses(t, v, api.Op{Do: do}, api.ErrForm)
	}
	down := func() {
		t.Helper()
		refuses(t, v, api.Op{}, api.ErrForm)
		for do := api.Begin; do <= api.Rebuild; do++ {
			refuses(t, v, api.Op{Do: do, N: -5, Name: " ", Shot: " ", Gen: -1, From: -1}, api.ErrDown)
			refuses(t, v, api.Op{Do: do, N: 1, Name: "a", Shot: "s"}, api.ErrDown)
		}
		if v.Up() {
			t.Fatal("up")
		}
	}
	done(t, v, api.Op{Do: api.Fall})
	down()
	done(t, v, api.Op{Do: api.Trip, N: 9})
	refuses(t, v, api.Op{Do: api.Trip, N: -1}, api.ErrArg)
	done(t, v, api.Op{Do: api.Rot, N: 800, Bytes: []byte("x")})
	if b, e := v.Sector(800); e != api.OK || b[0] != 'x' {
		t.Fatal("a sector of one that is not mounted", b, e)
	}
	done(t, v, api.Op{Do: api.Trip})
	done(t, v, api.Op{Do: api.Mount})
	wantRead(t, v, "a", noise(1, 300))
	used, places, live, entries := v.Used(), v.Places(), v.Live(), v.Entries()
	done(t, v, api.Op{Do: api.Trip, N: 1})
	refuses(t, v, api.Op{Do: api.Tick}, api.ErrDown)
	down()
	refuses(t, v, api.Op{Do: api.Mount}, api.ErrDown)
	refuses(t, v, api.Op{Do: api.Trip, N: -1}, api.ErrDown)
	done(t, v, api.Op{Do: api.Rot, N: 801})
	refuses(t, v, api.Op{Do: api.Rot, N: 900}, api.ErrArg)
	refuses(t, v, api.Op{Do: api.Rot, N: 0, Bytes: make([]byte, 129)}, api.ErrLimit)
	if b, e := v.Sector(0); e != api.ErrDown || b != nil {
		t.Fatal("a sector without power", e)
	}
	if v.Used() != used || !slices.Equal(v.Places(), places) || !slices.Equal(v.Live(), live) || v.Entries() != entries {
		t.Fatal("mounted still, and another one")
	}
	done(t, v, api.Op{Do: api.Fall})
	done(t, v, api.Op{Do: api.Fall})
	done(t, v, api.Op{Do: api.Mount})
	refuses(t, v, api.Op{Do: api.Mount}, api.ErrState)
	wantRead(t, v, "a", noise(1, 300))
}

// P19.2: errors as the model has them, at the limits.
func TestLimits(t *testing.T) {
	c := layout()
	c.Area, c.Sectors = 600, 4096
	v := appliance(t, c)
	m := model.New(0)
	both := func(o api.Op) api.Answer {
		t.Helper()
		a, want := v.Do(o), m.Do(o, false)
		if !sameAnswer(a, want) {
			t.Fatalf("%+v: %+v, not %+v", o, a, want)
		}
		return a
	}
	file := func(name string) api.Errno {
		t.Helper()
		n := both(api.Op{Do: api.Begin, Name: name}).N
		return both(api.Op{Do: api.Commit, N: n}).Errno
	}
	for range 32 {
		file("a")
	}
	if file("a") != api.ErrLimit {
		t.Fatal("33 generations")
	}
	for i := range 63 {
		file(fmt.Sprint("f", i))
	}
	if file("more") != api.ErrLimit || file("f0") != api.OK {
		t.Fatal("65 files")
	}
	both(api.Op{Do: api.Commit, N: 97})
	for i := range 17 {
		both(api.Op{Do: api.Snap, Shot: fmt.Sprint("s", i)})
	}
	both(api.Op{Do: api.Snap, Shot: "s3"})
	for range 5 {
		both(api.Op{Do: api.Begin, Name: "x"})
	}
	n := both(api.Op{Do: api.List}).Names
	if len(n) != 64 {
		t.Fatal(len(n))
	}
	for _, s := range []string{"", " ", strings.Repeat("x", 33), "\x7f"} {
		both(api.Op{Do: api.Begin, Name: s})
		both(api.Op{Do: api.Snap, Shot: s})
		both(api.Op{Do: api.Unsnap, Shot: s})
		both(api.Op{Do: api.Read, Name: s})
		both(api.Op{Do: api.Delete, Name: s})
		both(api.Op{Do: api.Shown, Shot: s, Name: "a"})
	}
	for _, k := range []int{-1, 0, 1, 100, 101, api.MaxNum, api.MaxNum + 1, math.MaxInt, math.MinInt} {
		both(api.Op{Do: api.Clean, N: k})
		both(api.Op{Do: api.Abort, N: k})
		both(api.Op{Do: api.Expire, Keep: api.Keep{Last: 99, Step: k}})
		both(api.Op{Do: api.Expire, Keep: api.Keep{Last: k, Young: 99, Step: 1}})
		both(api.Op{Do: api.Expire, Keep: api.Keep{Last: 99, Young: k, Step: 1}})
		both(api.Op{Do: api.Expire, Keep: api.Keep{Last: 99, Step: 1, Count: k}})
		both(api.Op{Do: api.Read, Name: "a", Gen: k})
		both(api.Op{Do: api.Range, Name: "a", From: k, Size: 1})
		both(api.Op{Do: api.Range, Name: "a", Size: k})
		both(api.Op{Do: api.Delete, Name: "f1", Gen: k})
		both(api.Op{Do: api.Tick, N: k})
	}
	if what := unlike(v, m); what != "" {
		t.Fatal(what)
	}
}

// P19.2, P19.3: how many bytes a session, and all of them, may have.
func TestSizes(t *testing.T) {
	c := layout()
	c.Sectors, c.Area = 2000, 300
	v := appliance(t, c)
	b := noise(1, 8193)
	n := begun(t, v, "a", b[:8000])
	done(t, v, api.Op{Do: api.Write, N: n, Bytes: b[8000:8192]})
	done(t, v, api.Op{Do: api.Write, N: n})
	done(t, v, api.Op{Do: api.Commit, N: n})
	wantRead(t, v, "a", b[:8192])
	used := v.Used()
	n = begun(t, v, "b", noise(2, 8192))
	refuses(t, v, api.Op{Do: api.Write, N: n, Bytes: b[:1]}, api.ErrLimit)
	refuses(t, v, api.Op{Do: api.Write, N: n}, api.ErrGone)
	if v.Used() != used {
		t.Fatal("what it sealed is not free", v.Used(), used)
	}
	n = begun(t, v, "b", nil)
	refuses(t, v, api.Op{Do: api.Write, N: n, Bytes: b}, api.ErrLimit)
	refuses(t, v, api.Op{Do: api.Abort, N: n}, api.ErrGone)
	c.Quota = 1
	v = appliance(t, c)
	put(t, v, "a", b[:1])
	refuses(t, v, api.Op{Do: api.Write, N: begun(t, v, "b", nil), Bytes: b[:1]}, api.ErrQuota)
	c.Quota = 1000
	v = appliance(t, c)
	put(t, v, "a", b[:300])
	done(t, v, api.Op{Do: api.Snap, Shot: "s"})
	done(t, v, api.Op{Do: api.Delete, Name: "a"})
	put(t, v, "a", b[:300])
	n = begun(t, v, "b", b[:200])
	k := begun(t, v, "c", b[:200])
	refuses(t, v, api.Op{Do: api.Write, N: n, Bytes: b[:1]}, api.ErrQuota)
	done(t, v, api.Op{Do: api.Write, N: k, Bytes: b[:200]})
	refuses(t, v, api.Op{Do: api.Commit, N: n}, api.ErrGone)
	done(t, v, api.Op{Do: api.Unsnap, Shot: "s"})
	done(t, v, api.Op{Do: api.Write, N: k, Bytes: b[:300]})
	refuses(t, v, api.Op{Do: api.Write, N: k, Bytes: b[:8000]}, api.ErrLimit)
}

// P19.3: a Commit that is too much is told ahead of all that would be written for it, and of room that is missing.
func TestLimitAhead(t *testing.T) {
	c := layout()
	c.Sectors = 2 + 2*c.Area + 20
	v := appliance(t, c)
	for range api.MaxGens {
		put(t, v, "a", nil)
	}
	put(t, v, "b", noise(1, 1200))
	n := begun(t, v, "a", noise(2, 1200))
	done(t, v, api.Op{Do: api.Trip, N: 1})
	refuses(t, v, api.Op{Do: api.Commit, N: n}, api.ErrLimit)
	refuses(t, v, api.Op{Do: api.Commit, N: n}, api.ErrGone)
	if !v.Up() {
		t.Fatal("something was written")
	}
	done(t, v, api.Op{Do: api.Trip})
	n = begun(t, v, "c", noise(2, 1200))
	refuses(t, v, api.Op{Do: api.Commit, N: n}, api.ErrSpace)
}

// P19.3: chunks wait till a segment ends; Entries tells how many wait, and how many are packed.
func TestWaiting(t *testing.T) {
	c := layout()
	v := appliance(t, c)
	b := noise(3, 3000)
	chunks, e := gear.All(c.Tune.Cut, gear.Table(5), b)
	if e != api.OK {
		t.Fatal(e)
	}
	n := done(t, v, api.Op{Do: api.Begin, Name: "a"}).N
	empty, waits, packed, sealed, size := v.Entries(), 0, 0, 0, 128
	met := map[int]int{}
	for _, x := range chunks[:len(chunks)-1] { // the last one ends with the file
		done(t, v, api.Op{Do: api.Write, N: n, Bytes: x})
		waits++
		if sum := digest.Sum(x); waits == 8 || waits >= 4 && sum[31] < 32 {
			met[waits]++
			for range waits {
				if y := chunks[sealed+packed]; size+len(y)+34 > 16*128 {
					sealed, packed, size = sealed+packed, 0, 128
				}
				size += len(chunks[sealed+packed]) + 34
				packed++
			}
			waits = 0
		}
		if v.Entries() != empty+waits+packed || (v.Used() > 0) != (sealed > 0) {
			t.Fatal(v.Entries()-empty, waits, packed, sealed, v.Used())
		}
	}
	if met[8] == 0 || len(met) < 2 || sealed == 0 {
		t.Fatal("not all was met", met, sealed)
	}
	if len(v.Places()) != 0 || len(v.Live()) != 0 {
		t.Fatal("known ahead of the commit")
	}
	done(t, v, api.Op{Do: api.Write, N: n, Bytes: chunks[len(chunks)-1]})
	done(t, v, api.Op{Do: api.Commit, N: n})
	wantRead(t, v, "a", b)
	if len(v.Live()) != len(chunks) || len(v.Places()) != len(slices.Compact(binsOf(v.Live()))) {
		t.Fatal(len(v.Live()), len(chunks), v.Places())
	}
}

func binsOf(l []api.Ref) []int {
	var bins []int
	for _, r := range l {
		bins = append(bins, r.Bin)
	}
	return bins
}

// P19.3: the same chunk again lies in the session's own packer.
func TestOwnPacker(t *testing.T) {
	v := appliance(t, layout())
	put(t, v, "zero", make([]byte, 160*20))
	live := v.Live()
	if len(live) != 1 || live[0].Len != 160 || live[0].Bin != 0 || live[0].Slot != 0 || v.Used() != 3 {
		t.Fatal(live, v.Used())
	}
	wantRead(t, v, "zero", make([]byte, 160*20))
	// What the packer had that is sealed is looked for no more: it is not known yet.
	b := slices.Concat(make([]byte, 160), noise(4, 4000), make([]byte, 320))
	w := appliance(t, layout())
	put(t, w, "a", b)
	zeros := 0
	for _, r := range w.Live() {
		if r.Sum == digest.Sum(make([]byte, 160)) {
			zeros++
		}
	}
	if zeros != 2 {
		t.Fatal(zeros)
	}
	wantRead(t, w, "a", b)
}

// P19.3: numbers are the least that no container and no other session's packer has.
func TestNumbers(t *testing.T) {
	c := layout()
	c.Tune.Seg, c.Tune.Wide = 1, 4
	v := appliance(t, c)
	n := begun(t, v, "a", noise(1, 170)) // a chunk at least is packed: the container 0 will be
	k := begun(t, v, "b", noise(2, 170))
	put(t, v, "c", noise(3, 40))
	if l := v.Places(); len(l) != 1 || l[0].Bin != 2 {
		t.Fatal(l)
	}
	done(t, v, api.Op{Do: api.Abort, N: k})
	put(t, v, "d", noise(4, 40))
	if l := v.Places(); len(l) != 2 || l[0].Bin != 1 || l[1].Bin != 2 {
		t.Fatal(l)
	}
	done(t, v, api.Op{Do: api.Commit, N: n})
	if l := v.Places(); len(l) < 3 || l[0].Bin != 0 {
		t.Fatal(l)
	}
	for i, p := range v.Places() {
		if p.Bin != i {
			t.Fatal("a number is left out", v.Places())
		}
	}
	// A packer of another session is not sealed: it is no container, and has its number all the same.
	k = begun(t, v, "e", noise(5, 170))
	many := len(v.Places())
	done(t, v, api.Op{Do: api.Delete, Name: "a"})
	if a := done(t, v, api.Op{Do: api.Clean, N: 100}); a.N == 0 {
		t.Fatal(a)
	}
	put(t, v, "f", noise(6, 40))
	if l := v.Places(); l[0].Bin != 0 || slices.ContainsFunc(l, func(p api.Place) bool { return p.Bin == many }) {
		t.Fatal(l, many)
	}
	done(t, v, api.Op{Do: api.Commit, N: k})
	if !slices.ContainsFunc(v.Places(), func(p api.Place) bool { return p.Bin == many }) {
		t.Fatal(v.Places(), many)
	}
}

// P19.3, B5, example 1: the same bytes again, and with some ahead, need no new container, or few.
func TestFoundAgain(t *testing.T) {
	v := appliance(t, layout())
	b := noise(1, 4000)
	put(t, v, "a", b)
	places := v.Places()
	put(t, v, "a", b)
	put(t, v, "b", b)
	if !slices.Equal(v.Places(), places) {
		t.Fatal("not found", v.Places())
	}
	used := v.Used()
	put(t, v, "c", slices.Concat([]byte("some bytes ahead"), b))
	if more := v.Used() - used; more < 2 || more > 6 {
		t.Fatal("only the first chunks are new", more)
	}
	wantRead(t, v, "b", b)
	wantRead(t, v, "c", slices.Concat([]byte("some bytes ahead"), b))
	// Of a session that goes on nothing is found.
	n := begun(t, v, "d", noise(2, 3000))
	used = v.Used()
	put(t, v, "e", noise(2, 3000))
	if v.Used() <= used {
		t.Fatal("found what is not committed")
	}
	done(t, v, api.Op{Do: api.Abort, N: n})
	wantRead(t, v, "e", noise(2, 3000))
}

// Example 2: two appliances, of which one remembers one container only, answer the same; the second one needs more sectors.
func TestTwoTunings(t *testing.T) {
	small := layout()
	small.Tune.Cache, small.Tune.Hooks, small.Tune.Each, small.Tune.Champs, small.Tune.Rate = 1, 2, 1, 1, 64
	v, w := appliance(t, layout()), appliance(t, small)
	for i := range 12 {
		b := slices.Concat(noise(uint32(i%4), 900), noise(uint32(i%3), 700))
		for _, x := range []*vault.Vault{v, w} {
			put(t, x, fmt.Sprint("f", i), b)
			wantRead(t, x, fmt.Sprint("f", i), b)
			done(t, x, api.Op{Do: api.Tick, N: 1})
		}
	}
	if !slices.Equal(done(t, v, api.Op{Do: api.List}).Names, done(t, w, api.Op{Do: api.List}).Names) || v.Used() >= w.Used() {
		t.Fatal(v.Used(), w.Used())
	}
}

// Example 10, P19.2: a write, and a commit, that find no room: the session is gone, its sectors are free, and no file is changed.
func TestNoRoom(t *testing.T) {
	c := layout()
	c.Sectors = 2 + 2*c.Area + 32
	for _, late := range []bool{false, true} {
		v := appliance(t, c)
		put(t, v, "a", noise(1, 1400))
		used, places, live := v.Used(), v.Places(), v.Live()
		n := begun(t, v, "b", noise(2, 1200))
		if late {
			done(t, v, api.Op{Do: api.Write, N: n, Bytes: noise(3, 40)})
			refuses(t, v, api.Op{Do: api.Commit, N: n}, api.ErrSpace)
		} else {
			refuses(t, v, api.Op{Do: api.Write, N: n, Bytes: noise(3, 6000)}, api.ErrSpace)
		}
		refuses(t, v, api.Op{Do: api.Write, N: n}, api.ErrGone)
		if v.Used() != used || !slices.Equal(v.Places(), places) || !slices.Equal(v.Live(), live) {
			t.Fatal(v.Used(), used)
		}
		wantRead(t, v, "a", noise(1, 1400))
		put(t, v, "c", noise(4, 600))
	}
}

// P19.2: a journal without room: ErrSpace of Commit and Snap, and room for all that takes away.
func TestJournalWithoutRoom(t *testing.T) {
	c := layout()
	c.Area, c.Sectors = 8, 200
	v := appliance(t, c)
	n, e := 0, api.OK
	for e == api.OK {
		e = v.Do(api.Op{Do: api.Commit, N: begun(t, v, fmt.Sprint("file", n), nil)}).Errno
		n++
	}
	if e != api.ErrSpace || n < 8 {
		t.Fatal(n, e)
	}
	refuses(t, v, api.Op{Do: api.Snap, Shot: "s"}, api.ErrSpace)
	k := begun(t, v, "big", noise(1, 3000))
	refuses(t, v, api.Op{Do: api.Commit, N: k}, api.ErrSpace)
	if v.Used() != 0 {
		t.Fatal("what was sealed is not free", v.Used())
	}
	for range 40 {
		done(t, v, api.Op{Do: api.Tick, N: 1 << 40})
	}
	done(t, v, api.Op{Do: api.Expire, Keep: api.Keep{Last: 1, Step: 1}})
	for i := range n - 1 {
		done(t, v, api.Op{Do: api.Delete, Name: fmt.Sprint("file", i)})
	}
	put(t, v, "a", noise(1, 100))
	done(t, v, api.Op{Do: api.Snap, Shot: "s"})
	done(t, v, api.Op{Do: api.Delete, Name: "a"})
	done(t, v, api.Op{Do: api.Unsnap, Shot: "s"})
}

// P19.4, example 7: what a snapshot holds is shown, and its chunks stay.
func TestShown(t *testing.T) {
	v := appliance(t, layout())
	put(t, v, "a", noise(1, 700))
	done(t, v, api.Op{Do: api.Snap, Shot: "s"})
	done(t, v, api.Op{Do: api.Delete, Name: "a"})
	refuses(t, v, api.Op{Do: api.Read, Name: "a"}, api.ErrGone)
	if a := done(t, v, api.Op{Do: api.Clean, N: 100}); a.N != 0 {
		t.Fatal("live chunks are cleaned", a)
	}
	if a := done(t, v, api.Op{Do: api.Shown, Shot: "s", Name: "a"}); !bytes.Equal(a.Bytes, noise(1, 700)) || a.N != 0 || a.Names != nil {
		t.Fatal(a)
	}
	refuses(t, v, api.Op{Do: api.Shown, Shot: "s", Name: "b"}, api.ErrGone)
	done(t, v, api.Op{Do: api.Unsnap, Shot: "s"})
	refuses(t, v, api.Op{Do: api.Shown, Shot: "s", Name: "a"}, api.ErrGone)
	if a := done(t, v, api.Op{Do: api.Clean, N: 100}); a.N != 1 || v.Used() != 0 {
		t.Fatal(a, v.Used())
	}
}

// container is the bytes of a container, as the disk has them.
func container(t *testing.T, v *vault.Vault, p api.Place) []byte {
	t.Helper()
	var all []byte
	for i := range p.Run.N {
		b, e := v.Sector(p.Run.At + i)
		if e != api.OK {
			t.Fatal(e)
		}
		all = append(all, b...)
	}
	return all
}

// P19.12 (B5): behind a Clean by 100 all chunks of the containers that the journal knows are live.
func TestAllLive(t *testing.T) {
	v := appliance(t, layout())
	for i := range 20 {
		put(t, v, fmt.Sprint("f", i%7), slices.Concat(noise(uint32(i), 300), noise(uint32(i/2), 300)))
		if i%3 == 0 {
			done(t, v, api.Op{Do: api.Delete, Name: fmt.Sprint("f", i%7)})
		}
	}
	n := begun(t, v, "open", slices.Concat(noise(3, 300), noise(50, 4000)))
	live := v.Live()
	done(t, v, api.Op{Do: api.Delete, Name: "f3"})
	if a := done(t, v, api.Op{Do: api.Clean, N: 100}); a.N == 0 || len(live) <= len(v.Live()) {
		t.Fatal(a)
	}
	done(t, v, api.Op{Do: api.Commit, N: n})
	wantRead(t, v, "open", slices.Concat(noise(3, 300), noise(50, 4000)))
	done(t, v, api.Op{Do: api.Clean, N: 100})
	spots := map[api.Spot]api.Sum{}
	for _, r := range v.Live() {
		spots[api.Spot{Bin: r.Bin, Slot: r.Slot}] = r.Sum
	}
	for _, p := range v.Places() {
		said, e := pack.Parse(container(t, v, p))
		if e != api.OK || said.ID != p.Bin || said.Sectors != p.Run.N {
			t.Fatal(p, said, e)
		}
		for slot, x := range said.Slots {
			if spots[api.Spot{Bin: p.Bin, Slot: slot}] != x.Sum {
				t.Fatal("a chunk that is not live", p, slot)
			}
		}
	}
	if a := done(t, v, api.Op{Do: api.Clean, N: 100}); a.N != 0 {
		t.Fatal("again", a)
	}
}

// P3: bytes that are handed in are not kept, nor changed; what is told is new memory.
func TestMemory(t *testing.T) {
	v := appliance(t, layout())
	n := done(t, v, api.Op{Do: api.Begin, Name: "a"}).N
	want := noise(1, 1000)
	b := append(bytes.Clone(want), "behind"...)
	for i := 0; i < 1000; i += 50 {
		piece := b[i : i+50]
		done(t, v, api.Op{Do: api.Write, N: n, Bytes: piece})
		if !bytes.Equal(piece, want[i:i+50]) || string(b[1000:]) != "behind" {
			t.Fatal("changed")
		}
		clear(piece)
	}
	done(t, v, api.Op{Do: api.Commit, N: n})
	spoil := func(b []byte) {
		b = b[:cap(b)]
		for i := range b {
			b[i]++
		}
	}
	done(t, v, api.Op{Do: api.Snap, Shot: "s"})
	for _, o := range []api.Op{{Do: api.Read, Name: "a"}, {Do: api.Range, Name: "a", From: 5, Size: 300}, {Do: api.Shown, Shot: "s", Name: "a"}} {
		spoil(done(t, v, o).Bytes)
	}
	done(t, v, api.Op{Do: api.List}).Names[0] = api.Held{}
	clear(v.Places())
	clear(v.Live())
	s, _ := v.Sector(0)
	spoil(s)
	keep := []bool{true, false}
	done(t, v, api.Op{Do: api.Fall, Crash: api.Crash{Keep: keep, Torn: -1}})
	if !keep[0] || keep[1] {
		t.Fatal("changed", keep)
	}
	done(t, v, api.Op{Do: api.Mount})
	wantRead(t, v, "a", want)
	rot := []byte("rot-")
	done(t, v, api.Op{Do: api.Rot, N: 880, Bytes: rot[:3]})
	spoil(rot)
	if b, e := v.Sector(880); e != api.OK || !bytes.HasPrefix(b, []byte("rot\x00")) {
		t.Fatal(b, e)
	}
	if a := done(t, v, api.Op{Do: api.List}); !slices.Equal(a.Names, []api.Held{{Name: "a", Gen: 1}}) {
		t.Fatal(a)
	}
}
