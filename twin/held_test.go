package twin

import (
	"testing"

	"aumbry/api"
)

// P28.7 (B4): beside the chunks that are kept nothing grows, however many come.
func TestPoolHolds(t *testing.T) {
	for _, room := range []int{1, 2, 9, 256} {
		p := newPool(room)
		for i := range 20000 {
			x := api.Part{Sum: api.Sum{byte(i), byte(i >> 8)}, Len: 1}
			p.keep(x, []byte{byte(i)})
			if n := min(i+1, room); len(p.chunks) != n || len(p.came) != n || p.size() != n {
				t.Fatal(room, i, len(p.chunks), len(p.came))
			}
			if cap(p.came) > 4*room+16 {
				t.Fatal(room, i, "room for", cap(p.came))
			}
		}
	}
}
