package hook

import (
	"math/rand"
	"testing"

	"aumbry/api"
)

// P9.4 (B4): what is held is the entries alone, each of them once in the heap, with little spare room, however much is put.
func TestHeldEntries(t *testing.T) {
	const room, each = 10, 3
	r := rand.New(rand.NewSource(1))
	x, _ := New(room, each)
	for range 5000 {
		s := api.Sum{byte(r.Intn(30))}
		switch r.Intn(6) {
		case 0:
			x.Get(s)
		case 1:
			x.Drop(r.Intn(40))
		default:
			x.Put(s, r.Intn(40))
		}
		for _, one := range []*Table{x, x.Fork()} {
			wantHeld(t, one, room, each)
		}
	}
}

func wantHeld(t *testing.T, x *Table, room, each int) {
	t.Helper()
	if len(x.ages) != len(x.entries) || len(x.ages) > room || cap(x.ages) > 4*room {
		t.Fatalf("%d entries, %d of %d in the heap", len(x.entries), len(x.ages), cap(x.ages))
	}
	for i, e := range x.ages {
		if e.place != i || x.entries[e.sum] != e {
			t.Fatalf("at %d of the heap: %x, which is elsewhere", i, e.sum)
		}
		if len(e.segments) < 1 || len(e.segments) > each || cap(e.segments) > 8*each {
			t.Fatalf("%d segments, with room for %d", len(e.segments), cap(e.segments))
		}
	}
}
