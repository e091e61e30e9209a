package vault_test

import (
	"testing"

	"aumbry/api"
	"aumbry/digest"
	"aumbry/vault"
)

// layout is an appliance with room for all that a test asks for, whose index finds all.
func layout() api.Config {
	return api.Config{Sectors: 900, Area: 120, Tune: api.Tune{
		Cut: api.Cut{Min: 32, Avg: 32, Max: 160}, Seed: 5, Wide: 16, Seg: 8, Rate: 1, Bits: 1 << 14, Ways: 3, Hooks: 500, Each: 4, Cache: 16, Champs: 4,
	}}
}

func appliance(t *testing.T, c api.Config) *vault.Vault {
	t.Helper()
	v, e := vault.New(c)
	if e != api.OK {
		t.Fatal(e)
	}
	return v
}

// noise is bytes that are like no others.
func noise(seed uint32, n int) []byte {
	b := make([]byte, n)
	x := seed*2654435761 + 1
	for i := range b {
		x = x*1664525 + 1013904223
		b[i] = byte(x >> 24)
	}
	return b
}

// done does what answers OK.
func done(t *testing.T, v *vault.Vault, o api.Op) api.Answer {
	t.Helper()
	a := v.Do(o)
	if a.Errno != api.OK {
		t.Fatalf("%d %d %s: %d", o.Do, o.N, o.Name, a.Errno)
	}
	return a
}

// refuses: an error, and nothing beside.
func refuses(t *testing.T, v *vault.Vault, o api.Op, e api.Errno) {
	t.Helper()
	if a := v.Do(o); !sameAnswer(a, api.Answer{Errno: e}) {
		t.Fatalf("%d %d %s %s: %+v, not %d", o.Do, o.N, o.Name, o.Shot, a, e)
	}
}

// begun is a session with some bytes.
func begun(t *testing.T, v *vault.Vault, name string, b []byte) int {
	t.Helper()
	n := done(t, v, api.Op{Do: api.Begin, Name: name}).N
	done(t, v, api.Op{Do: api.Write, N: n, Bytes: b})
	return n
}

func put(t *testing.T, v *vault.Vault, name string, b []byte) int {
	t.Helper()
	return done(t, v, api.Op{Do: api.Commit, N: begun(t, v, name, b)}).N
}

func wantRead(t *testing.T, v *vault.Vault, name string, b []byte) {
	t.Helper()
	if a := v.Do(api.Op{Do: api.Read, Name: name}); a.Errno != api.OK || string(a.Bytes) != string(b) {
		t.Fatal(name, a.Errno, len(a.Bytes), len(b))
	}
}

func sumOf(b []byte) []byte {
	s := digest.Sum(b)
	return s[:]
}
