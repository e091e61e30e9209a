package model_test

import (
	"bytes"
	"fmt"
	"math/rand"
	"slices"
	"testing"

	"aumbry/api"
	"aumbry/model"
)

// pair is a model, and a plain one that is to be alike.
type pair struct {
	m *model.Model
	p *plain
}

func (x pair) fork() pair { return pair{x.m.Fork(), x.p.fork()} }

// like holds all that is told against the plain one.
func (x pair) like(t *testing.T) {
	t.Helper()
	if !slices.Equal(x.m.Names(), x.p.names()) || !slices.Equal(x.m.Sessions(), x.p.sessions()) {
		t.Fatal(x.m.Names(), x.p.names(), x.m.Sessions(), x.p.sessions())
	}
	for _, name := range []string{"a", "b", "c", "d"} {
		for gen := range 12 {
			want := x.p.do(file(api.Read, name, gen), false)
			if b, e := x.m.Bytes(name, gen); e != want.Errno || !bytes.Equal(b, want.Bytes) {
				t.Fatal(name, gen, string(b), e, want)
			}
		}
		for _, s := range []string{"r", "s", "t"} {
			want := x.p.do(shown(s, name), false)
			if b, e := x.m.Shot(s, name); e != want.Errno || !bytes.Equal(b, want.Bytes) {
				t.Fatal(s, name, string(b), e, want)
			}
		}
	}
}

func randomOp(r *rand.Rand, p *plain) api.Op {
	name := string(rune('a' + r.Intn(4)))
	snap := string(rune('r' + r.Intn(3)))
	n := p.began - r.Intn(6)
	gen := max(0, r.Intn(10)-4)
	switch r.Intn(16) {
	case 0, 1, 2:
		return begin(name)
	case 3, 4, 5:
		return write(n, fmt.Sprint(r.Intn(1000)))
	case 6, 7, 8:
		return number(api.Commit, n)
	case 9:
		return number(api.Abort, n)
	case 10:
		return file(api.Delete, name, gen)
	case 11:
		return shot([]api.Do{api.Snap, api.Unsnap}[r.Intn(2)], snap)
	case 12:
		return number(api.Tick, r.Intn(7)-1)
	case 13:
		if r.Intn(3) > 0 {
			return expire(1+r.Intn(4), r.Intn(9), r.Intn(5), r.Intn(4))
		}
		return number(api.Clean, r.Intn(104)-2)
	case 14:
		return part(name, gen, r.Intn(6)-1, r.Intn(6)-1)
	}
	return []api.Op{file(api.Read, name, gen), file(api.Stat, name, gen), shown(snap, name), number(api.List, 0), number(api.Scrub, 0), number(api.Fall, 0)}[r.Intn(6)]
}

// P21.1 to P21.5: random lives against the plain one; a fork stands beside, and neither changes anything of the other (P4).
func TestLives(t *testing.T) {
	met := map[api.Do]map[api.Errno]int{}
	for seed := range int64(250) {
		r := rand.New(rand.NewSource(seed))
		quota := r.Intn(3) * 10
		x := pair{model.New(quota), &plain{quota: quota}}
		left := x.fork()
		for range 150 {
			switch r.Intn(20) {
			case 0:
				left = x.fork()
			case 1:
				x, left = left, x
			case 2:
				x.m.Fall()
				x.p.open = nil
			}
			o, space := randomOp(r, x.p), r.Intn(12) == 0
			ahead := x.fork()
			want := x.p.do(o, space)
			if a := x.m.Do(o, space); !sameAnswer(a, want) {
				t.Fatalf("seed %d: %+v, %t: %+v, not %+v", seed, o, space, a, want)
			}
			if met[o.Do] == nil {
				met[o.Do] = map[api.Errno]int{}
			}
			met[o.Do][want.Errno]++
			if x.m.Same(ahead.m) != x.p.same(ahead.p) || want.Errno != api.OK && !x.m.Same(ahead.m) || x.m.Same(left.m) != x.p.same(left.p) {
				t.Fatalf("seed %d: %+v: Same", seed, o)
			}
			x.like(t)
			left.like(t)
		}
	}
	for do, want := range map[api.Do][]api.Errno{
		api.Begin: {api.OK, api.ErrLimit}, api.Write: {api.OK, api.ErrGone, api.ErrQuota, api.ErrSpace}, api.Commit: {api.OK, api.ErrGone, api.ErrSpace}, api.Abort: {api.OK, api.ErrGone},
		api.Read: {api.OK, api.ErrGone}, api.Range: {api.OK, api.ErrGone, api.ErrArg}, api.Shown: {api.OK, api.ErrGone}, api.Stat: {api.OK, api.ErrGone}, api.Delete: {api.OK, api.ErrGone},
		api.Snap: {api.OK, api.ErrKnown, api.ErrSpace}, api.Unsnap: {api.OK, api.ErrGone}, api.Tick: {api.OK, api.ErrArg}, api.Expire: {api.OK, api.ErrArg}, api.Clean: {api.OK, api.ErrArg, api.ErrSpace},
	} {
		for _, e := range want {
			if met[do][e] < 10 {
				t.Errorf("operation %d with %d was met %d times", do, e, met[do][e])
			}
		}
	}
}

// P3: what is handed in stays as it is, with the room behind it, and is not kept; what is told is new memory.
func TestMemory(t *testing.T) {
	m := model.New(0)
	n := ok(t, m, begin("a"))
	given := []byte("onetwo-")
	m.Do(api.Op{Do: api.Write, N: n, Bytes: given[:3]}, false)
	m.Do(api.Op{Do: api.Write, N: n, Bytes: given[3:6]}, false)
	if string(given) != "onetwo-" {
		t.Fatal("what was handed in is changed", string(given))
	}
	clear(given)
	ok(t, m, number(api.Commit, n))
	ok(t, m, shot(api.Snap, "s"))
	spoil := func(b []byte) {
		b = b[:cap(b)]
		for i := range b {
			b[i] = '!'
		}
	}
	for _, o := range []api.Op{file(api.Read, "a", 0), shown("s", "a"), part("a", 0, 0, 9), part("a", 0, 1, 2), part("a", 0, 6, 2)} {
		spoil(m.Do(o, false).Bytes)
	}
	b, _ := m.Bytes("a", 1)
	spoil(b)
	b, _ = m.Shot("s", "a")
	spoil(b)
	for _, l := range [][]api.Held{m.Names(), m.Do(number(api.List, 0), false).Names} {
		l[0] = api.Held{Name: "z"}
	}
	ok(t, m, begin("b"))
	m.Sessions()[0] = 99
	answers(t, m, file(api.Read, "a", 0), false, api.Answer{Bytes: []byte("onetwo")})
	answers(t, m, shown("s", "a"), false, api.Answer{Bytes: []byte("onetwo")})
	answers(t, m, number(api.List, 0), false, api.Answer{Names: []api.Held{{Name: "a", Gen: 1}}})
	if !slices.Equal(m.Sessions(), []int{2}) {
		t.Fatal(m.Sessions())
	}
}

// P4: sessions of a fork that go on from the same bytes do not write into each other's.
func TestForkedSessions(t *testing.T) {
	m := model.New(0)
	n := ok(t, m, begin("a"))
	ok(t, m, write(n, "same"))
	ok(t, m, write(n, "+"))
	other := m.Fork()
	ok(t, m, write(n, "one"))
	ok(t, other, write(n, "two"))
	m.Fall()
	ok(t, other, number(api.Commit, n))
	answers(t, other, file(api.Read, "a", 0), false, api.Answer{Bytes: []byte("same+two")})
	answers(t, m, file(api.Read, "a", 0), false, api.Answer{Errno: api.ErrGone})
	put(t, m, "b", "x")
	third := m.Fork()
	put(t, m, "b", "y")
	put(t, third, "b", "z")
	answers(t, m, file(api.Read, "b", 2), false, api.Answer{Bytes: []byte("y")})
	answers(t, third, file(api.Read, "b", 2), false, api.Answer{Bytes: []byte("z")})
}
