package vault_test

import (
	"bytes"
	"math"
	"math/rand"
	"slices"
	"testing"

	"aumbry/api"
	"aumbry/vault"
)

func sameAnswer(a, b api.Answer) bool {
	return a.Errno == b.Errno && a.N == b.N && bytes.Equal(a.Bytes, b.Bytes) && slices.Equal(a.Names, b.Names)
}

// randomConfig is a layout with little room, of the journal, of the containers, or of the index.
func randomConfig(r *rand.Rand) api.Config {
	c := api.Config{Area: 8 + r.Intn(60), Quota: r.Intn(3) * r.Intn(9000)}
	c.Tune = api.Tune{
		Cut: api.Cut{Min: 32 + r.Intn(9), Avg: 1 << r.Intn(7), Max: 60 + r.Intn(100)}, Seed: r.Intn(99), Wide: 4 + r.Intn(14), Seg: 1 + r.Intn(16), Rate: 1 + r.Intn(3),
		Bits: 64 << r.Intn(6), Ways: 1 + r.Intn(4), Hooks: 1 + r.Intn(60), Each: 1 + r.Intn(4), Cache: 1 + r.Intn(6), Champs: 1 + r.Intn(4),
	}
	c.Sectors = 2 + 2*c.Area + c.Tune.Wide + r.Intn(120)
	return c
}

// texts is streams that have much in common.
type texts struct {
	r    *rand.Rand
	pool [][]byte
}

func (x *texts) next() []byte {
	r := x.r
	if len(x.pool) == 0 || r.Intn(5) == 0 {
		b := make([]byte, r.Intn(1200))
		for i := range b {
			b[i] = byte(r.Intn(256) >> uint(r.Intn(2)*8))
		}
		x.pool = append(x.pool, b)
	}
	b := x.pool[r.Intn(len(x.pool))]
	from := r.Intn(len(b) + 1)
	switch r.Intn(4) {
	case 0:
		return slices.Concat(b[:from], []byte("new"), b[from:])
	case 1:
		return b[from:]
	}
	return b
}

// lifeOp is an operation of any kind, mostly one that may be.
func lifeOp(r *rand.Rand, x *texts, p *plain) api.Op {
	name := string(rune('a' + r.Intn(6)))
	shot := string(rune('r' + r.Intn(4)))
	n := p.began - r.Intn(5)
	gen := max(0, r.Intn(8)-4)
	switch r.Intn(26) {
	case 0, 1, 2, 3:
		return api.Op{Do: api.Begin, Name: name}
	case 4, 5, 6, 7, 8, 9:
		return api.Op{Do: api.Write, N: n, Bytes: x.next()}
	case 10, 11, 12, 13:
		return api.Op{Do: api.Commit, N: n}
	case 14:
		return api.Op{Do: api.Abort, N: n}
	case 15, 16:
		return api.Op{Do: api.Delete, Name: name, Gen: gen}
	case 17:
		return api.Op{Do: []api.Do{api.Snap, api.Snap, api.Unsnap}[r.Intn(3)], Shot: shot}
	case 18:
		return api.Op{Do: api.Tick, N: r.Intn(1 << uint(r.Intn(20)))}
	case 19:
		return api.Op{Do: api.Expire, Keep: api.Keep{Last: 1 + r.Intn(4), Young: r.Intn(9), Step: r.Intn(9), Count: r.Intn(4)}}
	case 20, 21:
		return api.Op{Do: api.Clean, N: []int{100, 50, r.Intn(104) - 2}[r.Intn(3)]}
	case 22:
		return api.Op{Do: api.Range, Name: name, Gen: gen, From: r.Intn(900) - 3, Size: r.Intn(500) - 3}
	case 23:
		return api.Op{Do: []api.Do{api.Rebuild, api.Fall, api.Mount, api.NoDo}[r.Intn(4)]}
	}
	return []api.Op{{Do: api.Read, Name: name, Gen: gen}, {Do: api.Stat, Name: name, Gen: gen}, {Do: api.Shown, Shot: shot, Name: name}, {Do: api.List}, {Do: api.Scrub}}[r.Intn(5)]
}

// likePlain holds all that an appliance tells against the plain one.
func likePlain(t *testing.T, v *vault.Vault, p *plain, seed int64, o api.Op) {
	t.Helper()
	if !p.up {
		if v.Up() || v.Used() != 0 || v.Places() != nil || v.Live() != nil || v.Entries() != 0 {
			t.Fatalf("seed %d: %+v: not mounted, and has something", seed, o)
		}
		return
	}
	if !v.Up() || v.Used() != p.used() || v.Entries() != p.entries() || v.Entries() > vault.Most(p.c) {
		t.Fatalf("seed %d: %+v: up %t, used %d %d, entries %d %d", seed, o, v.Up(), v.Used(), p.used(), v.Entries(), p.entries())
	}
	if !slices.Equal(v.Places(), p.places()) {
		t.Fatalf("seed %d: %+v: places %v %v", seed, o, v.Places(), p.places())
	}
	if !slices.Equal(v.Live(), p.book.Live()) {
		t.Fatalf("seed %d: %+v: live %v %v", seed, o, v.Live(), p.book.Live())
	}
}

// rotted is a Rot of a sector of a container, or of one that is free.
func rotted(r *rand.Rand, p *plain) api.Op {
	from := 2 + 2*p.c.Area
	o := api.Op{Do: api.Rot, N: from + r.Intn(p.c.Sectors-from), Bytes: make([]byte, r.Intn(130))}
	for i := range o.Bytes {
		o.Bytes[i] = byte(r.Intn(256))
	}
	if r.Intn(9) == 0 {
		o.N = []int{-1, p.c.Sectors}[r.Intn(2)]
	}
	return o
}

// lives runs random lives of an appliance against the plain one.
func lives(t *testing.T, count int64, rots int) map[api.Do]map[api.Errno]int {
	met := map[api.Do]map[api.Errno]int{}
	for seed := range count {
		r := rand.New(rand.NewSource(seed))
		c := randomConfig(r)
		v, e := vault.New(c)
		if e != api.OK {
			t.Fatalf("%+v: %d", c, e)
		}
		p := newPlain(c)
		x := &texts{r: r}
		for range 200 {
			o := lifeOp(r, x, p)
			if !p.up && r.Intn(3) > 0 {
				o = api.Op{Do: api.Mount}
			}
			if rots > 0 && r.Intn(rots) == 0 {
				o = rotted(r, p)
			}
			want := p.do(o)
			if a := v.Do(o); !sameAnswer(a, want) {
				t.Fatalf("seed %d: %+v: %+v, not %+v", seed, o, a, want)
			}
			if met[o.Do] == nil {
				met[o.Do] = map[api.Errno]int{}
			}
			met[o.Do][want.Errno]++
			likePlain(t, v, p, seed, o)
		}
	}
	return met
}

func wantMet(t *testing.T, met map[api.Do]map[api.Errno]int, want map[api.Do][]api.Errno) {
	t.Helper()
	for do, l := range want {
		for _, e := range l {
			if met[do][e] < 10 {
				t.Errorf("operation %d with %d was met %d times", do, e, met[do][e])
			}
		}
	}
}

// P19.2 to P19.7, P19.11: random lives, where there is little room, against the plain one: each answer, and where each chunk lies. What takes away finds room at any time.
func TestLives(t *testing.T) {
	met := lives(t, 300, 0)
	for _, do := range []api.Do{api.Delete, api.Unsnap, api.Tick, api.Expire, api.Mount} {
		if met[do][api.ErrSpace] > 0 {
			t.Error("no room", do)
		}
	}
	wantMet(t, met, map[api.Do][]api.Errno{
		api.NoDo: {api.ErrForm}, api.Begin: {api.OK, api.ErrLimit, api.ErrDown}, api.Write: {api.OK, api.ErrGone, api.ErrQuota, api.ErrSpace}, api.Commit: {api.OK, api.ErrGone, api.ErrSpace}, api.Abort: {api.OK, api.ErrGone},
		api.Read: {api.OK, api.ErrGone}, api.Range: {api.OK, api.ErrGone, api.ErrArg}, api.Shown: {api.OK, api.ErrGone}, api.Stat: {api.OK, api.ErrGone}, api.Delete: {api.OK, api.ErrGone},
		api.Snap: {api.OK, api.ErrKnown, api.ErrSpace}, api.Unsnap: {api.OK, api.ErrGone}, api.Tick: {api.OK}, api.Expire: {api.OK, api.ErrArg}, api.Clean: {api.OK, api.ErrArg, api.ErrSpace},
		api.Scrub: {api.OK}, api.Rebuild: {api.OK}, api.Fall: {api.OK}, api.Mount: {api.OK, api.ErrState},
	})
}

// P19.4, P19.5, P19.10 (B2): likewise, while sectors of containers rot.
func TestRottenLives(t *testing.T) {
	wantMet(t, lives(t, 300, 12), map[api.Do][]api.Errno{
		api.Read: {api.OK, api.ErrRot}, api.Range: {api.OK, api.ErrRot, api.ErrArg}, api.Shown: {api.OK, api.ErrRot}, api.Rot: {api.OK, api.ErrArg, api.ErrLimit}, api.Clean: {api.OK}, api.Commit: {api.OK},
	})
}

// extreme is a number of any size.
func extreme(r *rand.Rand) int {
	return []int{0, 1, 2, 3, -1, 5, 100, 101, api.MaxNum, api.MaxNum + 1, math.MaxInt, math.MinInt, r.Intn(300), r.Intn(9000)}[r.Intn(14)]
}

// hostileOp is an operation of anything, often a Rot of a sector that may be the journal's.
func hostileOp(r *rand.Rand, v *vault.Vault, x *texts) api.Op {
	names := []string{"a", "b", "", "a b", "s", string(make([]byte, 99))}
	o := api.Op{
		Do: api.Do(r.Intn(25) - 1), N: extreme(r), Name: names[r.Intn(6)], Shot: names[r.Intn(6)], Gen: extreme(r), From: extreme(r), Size: extreme(r), Bytes: x.next(),
		Keep: api.Keep{Last: extreme(r), Young: extreme(r), Step: extreme(r), Count: extreme(r)}, Crash: api.Crash{Keep: make([]bool, r.Intn(9)), Torn: extreme(r), At: extreme(r)},
	}
	switch r.Intn(4) {
	case 0:
		o.N, o.Gen = r.Intn(20), 0
	case 1: // a sector comes to be what another one is
		o.Do, o.N = api.Rot, r.Intn(100)
		o.Bytes, _ = v.Sector(r.Intn(100))
	case 2:
		o.Do, o.N = []api.Do{api.Fall, api.Mount, api.Begin, api.Commit, api.Clean, api.Trip}[r.Intn(6)], r.Intn(100)
	}
	return o
}

// P1, P2, P19.11: whatever is done, and whatever rots, also in the journal: no call panics, an error comes alone, and what is held stays below what may be.
func TestHostile(t *testing.T) {
	met := map[api.Errno]int{}
	for seed := range int64(400) {
		r := rand.New(rand.NewSource(seed))
		c := randomConfig(r)
		c.Area = 8 + r.Intn(20)
		c.Sectors = 2 + 2*c.Area + c.Tune.Wide + r.Intn(60)
		v := appliance(t, c)
		x := &texts{r: r}
		for range 150 {
			o := hostileOp(r, v, x)
			a := v.Do(o)
			met[a.Errno]++
			if a.Errno != api.OK && !sameAnswer(a, fails(a.Errno)) {
				t.Fatalf("seed %d: %+v: %+v", seed, o, a)
			}
			if v.Entries() > vault.Most(c) || v.Used() < 0 || v.Used() > c.Sectors || len(v.Places()) > v.Used() || !v.Up() && a.Errno == api.OK && o.Do < api.Trip {
				t.Fatalf("seed %d: %+v: %+v: %d %d", seed, o, a, v.Entries(), v.Used())
			}
			v.Live()
			v.Sector(extreme(r))
		}
	}
	for _, e := range []api.Errno{api.OK, api.ErrArg, api.ErrForm, api.ErrLimit, api.ErrDown, api.ErrGone, api.ErrState, api.ErrRot} {
		if met[e] == 0 {
			t.Error("not met", e)
		}
	}
}
