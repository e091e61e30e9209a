package cache

import (
	"math/rand"
	"testing"

	"aumbry/api"
)

// P10.3 (B4): nothing is held of sums that no container has any more, however many were put.
func TestHeldSums(t *testing.T) {
	r := rand.New(rand.NewSource(1))
	c, _ := New(3)
	for i := range 500 {
		var l []api.Sum
		for range r.Intn(api.MaxSlots + 1) {
			l = append(l, api.Sum{byte(i), byte(i >> 8), byte(r.Intn(40))})
		}
		c.Put(r.Intn(6), l)
		if r.Intn(5) == 0 {
			c.Drop(r.Intn(6))
		}
		for _, one := range []*Cache{c, c.Fork()} {
			wantHeld(t, one)
		}
	}
	c.Clear()
	wantHeld(t, c)
}

// wantHeld: the map has just the sums of the containers, in just these.
func wantHeld(t *testing.T, c *Cache) {
	t.Helper()
	has := map[api.Sum]map[int]bool{}
	for _, b := range c.boxes {
		for _, s := range b.sums {
			if has[s] == nil {
				has[s] = map[int]bool{}
			}
			has[s][b.bin] = true
		}
	}
	if len(c.where) != len(has) {
		t.Fatalf("%d sums are held; want %d", len(c.where), len(has))
	}
	for s, slots := range c.where {
		if len(slots) != len(has[s]) {
			t.Fatalf("of %x %d containers are held; want %d", s, len(slots), len(has[s]))
		}
	}
}
