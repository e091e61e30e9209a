package vault_test

import (
	"fmt"
	"math/rand"
	"slices"
	"sort"
	"strings"
	"testing"

	"aumbry/api"
	"aumbry/model"
	"aumbry/vault"
)

// unlike is in what an appliance's files are not as the model has them; empty, if they are.
func unlike(v *vault.Vault, m *model.Model) string {
	ops := []api.Op{{Do: api.List}}
	for _, name := range []string{"a", "b", "c", "d", "e", "f"} {
		for gen := range 14 {
			ops = append(ops, api.Op{Do: api.Read, Name: name, Gen: gen})
		}
		ops = append(ops, api.Op{Do: api.Stat, Name: name}, api.Op{Do: api.Range, Name: name, From: 1, Size: 70})
		for _, shot := range []string{"r", "s", "t", "u"} {
			ops = append(ops, api.Op{Do: api.Shown, Shot: shot, Name: name})
		}
	}
	for _, o := range ops {
		if a, want := v.Do(o), m.Do(o, false); !sameAnswer(a, want) {
			return fmt.Sprintf("%+v: %d %d bytes %v, not %d %d bytes %v", o, a.Errno, len(a.Bytes), a.Names, want.Errno, len(want.Bytes), want.Names)
		}
	}
	return ""
}

// timeLeft is how long a model can tick.
func timeLeft(m *model.Model) int {
	return sort.Search(api.MaxNum, func(n int) bool { return m.Fork().Do(api.Op{Do: api.Tick, N: n + 1}, false).Errno != api.OK })
}

// sameTime: is it the same time for both? Behind it there is none left.
func sameTime(v *vault.Vault, m *model.Model) bool {
	left := timeLeft(m)
	return v.Do(api.Op{Do: api.Tick, N: left + 1}).Errno == api.ErrArg && v.Do(api.Op{Do: api.Tick, N: left}).Errno == api.OK
}

// randomCrash keeps all, nothing, or some, and may tear a sector.
func randomCrash(r *rand.Rand) api.Crash {
	c := api.Crash{Torn: r.Intn(40) - 20, At: r.Intn(140) - 5}
	some := r.Intn(3)
	for range 60 {
		c.Keep = append(c.Keep, some == 0 || some == 1 && r.Intn(2) == 0)
	}
	return c
}

// revive has an appliance fall, and be mounted; the power may go again meanwhile, often.
func revive(t *testing.T, v *vault.Vault, crash func() api.Crash, trip func() int) {
	t.Helper()
	for {
		if a := v.Do(api.Op{Do: api.Fall, Crash: crash()}); a.Errno != api.OK || v.Up() || v.Used() != 0 || v.Entries() != 0 {
			t.Fatal("fallen", a)
		}
		v.Do(api.Op{Do: api.Trip, N: trip()})
		switch e := v.Do(api.Op{Do: api.Mount}).Errno; {
		case e == api.OK && v.Up():
			v.Do(api.Op{Do: api.Trip})
			return
		case e != api.ErrDown || v.Up() || v.Used() != 0 || v.Places() != nil:
			t.Fatal("mounted", e)
		}
	}
}

// candidates are models of which one has to be alike.
type candidates []*model.Model

// hold keeps those that are right.
func (c candidates) hold(right func(*model.Model) bool) candidates {
	var l candidates
	for _, m := range c {
		// An operation may be done here: like ones are told by how they are behind it.
		is := right(m)
		if is && !slices.ContainsFunc(l, m.Same) {
			l = append(l, m)
		}
	}
	return l
}

// P19.8, P19.9 (B1, B3): random lives against the model, in which the power goes at any write or flush: the operation under way is done, or not, and all others are.
func TestCrashLives(t *testing.T) {
	fallen, under := 0, map[api.Do]int{}
	for seed := range int64(500) {
		r := rand.New(rand.NewSource(seed))
		c := randomConfig(r)
		c.Area += 30
		c.Sectors += 300
		v, e := vault.New(c)
		if e != api.OK {
			t.Fatal(e)
		}
		p := &plain{} // of which only the number of sessions is asked
		l := candidates{model.New(c.Quota)}
		x := &texts{r: r}
		for range 120 {
			if r.Intn(6) == 0 {
				v.Do(api.Op{Do: api.Trip, N: r.Intn(25)})
			}
			o := lifeOp(r, x, p)
			if o.Do == api.Fall || o.Do == api.Mount {
				continue
			}
			a := v.Do(o)
			if a.Errno == api.ErrDown {
				fallen++
				under[o.Do]++
				for _, m := range l {
					done := m.Fork()
					done.Do(o, false)
					l = append(l, done)
				}
				for _, m := range l {
					m.Fall()
				}
				revive(t, v, func() api.Crash { return randomCrash(r) }, func() int { return r.Intn(3) * r.Intn(30) })
				l = l.hold(func(m *model.Model) bool { return unlike(v, m) == "" })
			} else {
				l = l.hold(func(m *model.Model) bool {
					want := m.Do(o, a.Errno == api.ErrSpace)
					if o.Do == api.Clean {
						want.N = a.N
					}
					return sameAnswer(a, want)
				})
				if o.Do == api.Begin && a.Errno == api.OK {
					p.began = a.N
				}
			}
			if len(l) == 0 {
				t.Fatalf("seed %d: %+v: %+v: no model is so", seed, o, a)
			}
			if v.Entries() > vault.Most(c) {
				t.Fatal("too many entries", v.Entries())
			}
		}
		if n := v.Do(api.Op{Do: api.Scrub}); n.Errno != api.OK && v.Up() || n.N != 0 {
			t.Fatal("scrubbed", n)
		}
		revive(t, v, func() api.Crash { return randomCrash(r) }, func() int { return 0 })
		l = l.hold(func(m *model.Model) bool { return unlike(v, m) == "" })
		if len(l) == 0 {
			t.Fatalf("seed %d: at the end no model is so", seed)
		}
		if len(l) == 1 && !sameTime(v, l[0]) {
			t.Fatalf("seed %d: it is another time", seed)
		}
	}
	for _, do := range []api.Do{api.Write, api.Commit, api.Delete, api.Snap, api.Unsnap, api.Tick, api.Expire, api.Clean} {
		if under[do] < 5 {
			t.Errorf("%d fell, %d of them in operation %d", fallen, under[do], do)
		}
	}
}

// scene is an appliance in the midst of its life, and its model.
func scene(t *testing.T, ticks int) (*vault.Vault, *model.Model) {
	t.Helper()
	c := layout()
	c.Area, c.Sectors = 20, 150
	v, e := vault.New(c)
	if e != api.OK {
		t.Fatal(e)
	}
	m := model.New(0)
	do := func(o api.Op) {
		t.Helper()
		if a, want := v.Do(o), m.Do(o, false); !sameAnswer(a, want) && o.Do != api.Clean || a.Errno != api.OK {
			t.Fatalf("%+v: %+v %+v", o, a, want)
		}
	}
	put := func(name string, n int, b []byte) {
		t.Helper()
		do(api.Op{Do: api.Begin, Name: name})
		do(api.Op{Do: api.Write, N: n, Bytes: b})
		do(api.Op{Do: api.Commit, N: n})
	}
	put("a", 1, noise(1, 150))
	put("b", 2, noise(2, 90))
	do(api.Op{Do: api.Snap, Shot: "s"})
	put("a", 3, noise(3, 100))
	do(api.Op{Do: api.Delete, Name: "b"})
	do(api.Op{Do: api.Begin, Name: "c"})
	do(api.Op{Do: api.Write, N: 4, Bytes: noise(3, 400)})
	do(api.Op{Do: api.Delete, Name: "a", Gen: 2})
	for range ticks {
		do(api.Op{Do: api.Tick, N: 3})
	}
	return v, m
}

// crashes is what may become of the first dirty sectors.
func crashes() []api.Crash {
	all := make([]bool, 40)
	for i := range all {
		all[i] = true
	}
	l := []api.Crash{{Torn: -1}, {Keep: all, Torn: -1}}
	for _, at := range []int{0, 7, 125} {
		for torn := range 3 {
			l = append(l, api.Crash{Torn: torn, At: at}, api.Crash{Keep: all, Torn: torn, At: at})
		}
	}
	return append(l, api.Crash{Keep: all[:1], Torn: -1}, api.Crash{Keep: all[:2], Torn: -1}, api.Crash{Keep: append([]bool{false}, all...), Torn: -1}, api.Crash{Keep: append([]bool{true, false}, all...), Torn: -1})
}

// P19.9 (B3): each operation, with the power gone at each of its writes and flushes, also where the journal is renewed; whatever the crash keeps.
func TestEachCrash(t *testing.T) {
	ops := []api.Op{
		{Do: api.Commit, N: 4}, {Do: api.Write, N: 4, Bytes: noise(5, 2400)}, {Do: api.Delete, Name: "a"}, {Do: api.Snap, Shot: "t"}, {Do: api.Unsnap, Shot: "s"},
		{Do: api.Tick, N: 5}, {Do: api.Expire, Keep: api.Keep{Step: 1}}, {Do: api.Clean, N: 100},
	}
	for _, o := range ops {
		met := map[string]int{}
		for _, ticks := range []int{0, 5, 6, 7, 8, 9, 10} {
			for n := 1; ; n++ {
				over := false
				for _, crash := range crashes() {
					v, before := scene(t, ticks)
					after := before.Fork()
					after.Do(o, false)
					before.Fall()
					after.Fall()
					v.Do(api.Op{Do: api.Trip, N: n})
					if a := v.Do(o); a.Errno != api.ErrDown {
						over = a.Errno == api.OK
						if !over {
							t.Fatalf("%+v: %+v", o, a)
						}
						break
					}
					revive(t, v, func() api.Crash { return crash }, func() int { return 0 })
					what := ""
					if unlike(v, before) == "" && (o.Do != api.Tick || !passed(v, after)) {
						what = "before"
					} else if unlike(v, after) == "" {
						what = "after"
					}
					if what == "" {
						t.Fatalf("%+v, %d ticks, trip %d, %+v: neither as ahead nor as behind: %s", o, ticks, n, crash, unlike(v, before))
					}
					if v.Do(api.Op{Do: api.Scrub}).N != 0 {
						t.Fatalf("%+v, trip %d: chunks can't be read", o, n)
					}
					met[what]++
				}
				if over {
					break
				}
			}
		}
		if met["before"] < 10 || met["after"] < 5 && o.Do != api.Write && o.Do != api.Clean {
			t.Error(o.Do, met)
		}
	}
}

// passed: is it as late as the model has it?
func passed(v *vault.Vault, m *model.Model) bool {
	return v.Do(api.Op{Do: api.Tick, N: timeLeft(m) + 1}).Errno == api.ErrArg
}

// P19.9 (B3): the power goes at each write and flush of a mount, again and again.
func TestCrashesWhileMounting(t *testing.T) {
	for _, ticks := range []int{0, 7} {
		for n := 1; n < 16; n++ {
			for _, crash := range crashes() {
				v, m := scene(t, ticks)
				m.Fall()
				times := 0
				revive(t, v, func() api.Crash { return crash }, func() int {
					times++
					if times > 4 {
						return 0
					}
					return n
				})
				if what := unlike(v, m); what != "" || !sameTime(v, m) {
					t.Fatalf("trip %d, %+v: %s", n, crash, what)
				}
			}
		}
	}
}

// Example 3, and the order of P19.3's steps: two sectors of a container, a flush, a sector of the journal, a flush. The first sector that is dirty at the last flush is the record's.
func TestCommitStepByStep(t *testing.T) {
	done := func(trip int, crash api.Crash) (api.Errno, bool) {
		v := appliance(t, layout())
		begun(t, v, "a", noise(1, 60))
		v.Do(api.Op{Do: api.Trip, N: trip})
		e := v.Do(api.Op{Do: api.Commit, N: 1}).Errno
		v.Do(api.Op{Do: api.Fall, Crash: crash})
		if f := v.Do(api.Op{Do: api.Mount}).Errno; f != api.OK {
			t.Fatal(f)
		}
		return e, v.Do(api.Op{Do: api.Read, Name: "a"}).Errno == api.OK
	}
	all, none := api.Crash{Keep: make([]bool, 9), Torn: -1}, api.Crash{Torn: -1}
	for i := range all.Keep {
		all.Keep[i] = true
	}
	for trip := 1; trip <= 5; trip++ {
		for _, crash := range []api.Crash{all, none} {
			if e, there := done(trip, crash); e != api.ErrDown || there != (trip == 5 && len(crash.Keep) > 0) {
				t.Error(trip, e, there)
			}
		}
	}
	if e, there := done(6, none); e != api.OK || !there {
		t.Error(e, there)
	}
	if e, there := done(5, api.Crash{Keep: []bool{true}, Torn: 0, At: 127}); e != api.ErrDown || there {
		t.Error("a record that is torn", e, there)
	}
}

// Example 4: a commit is lost with its containers torn: their sectors are free again.
func TestLostCommit(t *testing.T) {
	v := appliance(t, layout())
	put(t, v, "a", noise(1, 500))
	used, places := v.Used(), v.Places()
	begun(t, v, "b", noise(2, 2000))
	v.Do(api.Op{Do: api.Trip, N: 4})
	if a := v.Do(api.Op{Do: api.Commit, N: 2}); a.Errno != api.ErrDown {
		t.Fatal(a)
	}
	v.Do(api.Op{Do: api.Fall, Crash: api.Crash{Keep: []bool{true, true}, Torn: 1, At: 50}})
	if a := v.Do(api.Op{Do: api.Mount}); a.Errno != api.OK || v.Used() != used || fmt.Sprint(v.Places()) != fmt.Sprint(places) {
		t.Fatal(a, v.Used(), v.Places())
	}
	if a := v.Do(api.Op{Do: api.Commit, N: 2}); a.Errno != api.ErrGone {
		t.Fatal("a session outlived the crash", a)
	}
	if a := v.Do(api.Op{Do: api.Begin, Name: "b"}); a.N != 3 {
		t.Fatal("sessions are counted beyond a crash", a)
	}
}

// Example 5, example 6: the journal is renewed whenever its area is full, and outlives it.
func TestJournalGoesOn(t *testing.T) {
	c := layout()
	c.Area, c.Sectors = 8, 60
	v := appliance(t, c)
	m := model.New(0)
	put(t, v, "a", []byte("short"))
	for i, o := range []api.Op{{Do: api.Begin, Name: "a"}, {Do: api.Write, N: 1, Bytes: []byte("short")}, {Do: api.Commit, N: 1}} {
		if a := m.Do(o, false); a.Errno != api.OK {
			t.Fatal(i, a)
		}
	}
	met := map[string]bool{}
	for i := range 60 {
		o := api.Op{Do: api.Tick, N: 1}
		if a, want := v.Do(o), m.Do(o, false); !sameAnswer(a, want) {
			t.Fatal(i, a)
		}
		b, _ := v.Sector(0)
		d, _ := v.Sector(1)
		met[string(b)+string(d)] = true
		if i%7 == 0 {
			revive(t, v, func() api.Crash { return api.Crash{Torn: -1} }, func() int { return 0 })
		}
	}
	if what := unlike(v, m); what != "" || !sameTime(v, m) {
		t.Fatal(what)
	}
	if len(met) < 9 {
		t.Error("the cell was not set anew as often as the area is full", len(met))
	}
	if s := strings.Repeat("x", 33); v.Do(api.Op{Do: api.Snap, Shot: s}).Errno != api.ErrArg {
		t.Error("a name")
	}
}
