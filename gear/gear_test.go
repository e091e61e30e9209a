package gear_test

import (
	"bytes"
	"math"
	"math/rand"
	"slices"
	"testing"

	"aumbry/api"
	"aumbry/gear"
)

// The signatures that the chapter lists.
var (
	_ func(uint64) [256]uint32                                 = gear.Table
	_ func(api.Cut) api.Errno                                  = gear.Check
	_ func(api.Cut, [256]uint32) (*gear.Cutter, api.Errno)     = gear.New
	_ func(*gear.Cutter, []byte) ([][]byte, api.Errno)         = (*gear.Cutter).Write
	_ func(*gear.Cutter) ([]byte, api.Errno)                   = (*gear.Cutter).End
	_ func(*gear.Cutter) int                                   = (*gear.Cutter).Held
	_ func(*gear.Cutter) *gear.Cutter                          = (*gear.Cutter).Fork
	_ func(api.Cut, [256]uint32, []byte) ([][]byte, api.Errno) = gear.All
)

func text(seed int64, n int) []byte {
	p := make([]byte, n)
	rand.New(rand.NewSource(seed)).Read(p)
	return p
}

func made(t *testing.T, c api.Cut, table [256]uint32) *gear.Cutter {
	t.Helper()
	g, e := gear.New(c, table)
	if g == nil || e != api.OK {
		t.Fatalf("New(%v): %d", c, e)
	}
	return g
}

// cuts are bounds of all kinds that may be.
func cuts() []api.Cut {
	return []api.Cut{
		{Min: 1, Avg: 1, Max: 1}, {Min: 1, Avg: 256, Max: 1}, {Min: 1, Avg: 1, Max: 9}, {Min: 2, Avg: 1, Max: 9},
		{Min: 1, Avg: 2, Max: 512}, {Min: 1, Avg: 8, Max: 3}, {Min: 4, Avg: 8, Max: 20}, {Min: 5, Avg: 16, Max: 5},
		{Min: 32, Avg: 64, Max: 128}, {Min: 33, Avg: 4, Max: 300}, {Min: 1, Avg: 256, Max: 512}, {Min: 512, Avg: 32, Max: 512},
		{Min: 511, Avg: 128, Max: 512}, {Min: 40, Avg: 2, Max: 41},
	}
}

// tables are those of seeds, and ones that make hashes alike, great, or small.
func tables() [][256]uint32 {
	l := [][256]uint32{gear.Table(0), gear.Table(7), gear.Table(math.MaxUint64), {}}
	var most, odd [256]uint32
	for i := range most {
		most[i] = math.MaxUint32
		odd[i] = uint32(i) << 24
	}
	return append(l, most, odd)
}

// hashOf is the hash by its definition: each byte's number, times 2 for each byte behind it.
func hashOf(table [256]uint32, p []byte) uint64 {
	h := uint64(0)
	for _, x := range p {
		h = (2*h + uint64(table[x])) % (1 << 32)
	}
	return h
}

// firstEnd is where the first chunk of p ends; 0, if it does not.
func firstEnd(c api.Cut, table [256]uint32, p []byte) int {
	for k := c.Min; k <= len(p); k++ {
		if k == c.Max || hashOf(table, p[:k]) < (1<<32)/uint64(c.Avg) {
			return k
		}
	}
	return 0
}

// plain is a text's chunks, and what is left, by the chapter's words.
func plain(c api.Cut, table [256]uint32, p []byte) ([][]byte, []byte) {
	var row [][]byte
	for k := firstEnd(c, table, p); k > 0; k = firstEnd(c, table, p) {
		row = append(row, p[:k])
		p = p[k:]
	}
	return row, p
}

func wantRow(t *testing.T, got, want [][]byte) {
	t.Helper()
	if !slices.EqualFunc(got, want, bytes.Equal) {
		t.Fatalf("%q; want %q", got, want)
	}
}

func wantWrite(t *testing.T, g *gear.Cutter, p []byte, want ...string) {
	t.Helper()
	row, e := g.Write(p)
	if e != api.OK {
		t.Fatal(e)
	}
	wantTexts(t, row, want...)
}

func wantTexts(t *testing.T, row [][]byte, want ...string) {
	t.Helper()
	var l [][]byte
	for _, s := range want {
		l = append(l, []byte(s))
	}
	wantRow(t, row, l)
}

func wantEnd(t *testing.T, g *gear.Cutter, want string) {
	t.Helper()
	if p, e := g.End(); string(p) != want || e != api.OK {
		t.Fatalf("End: %q, %d; want %q", p, e, want)
	}
}

func wantHeld(t *testing.T, g *gear.Cutter, want int) {
	t.Helper()
	if n := g.Held(); n != want {
		t.Fatalf("holds %d; want %d", n, want)
	}
}

func wantOver(t *testing.T, g *gear.Cutter) {
	t.Helper()
	for _, p := range [][]byte{nil, {}, []byte("abc"), text(1, 2000)} {
		if row, e := g.Write(p); len(row) != 0 || e != api.ErrState {
			t.Errorf("Write behind an End: %q, %d", row, e)
		}
	}
	if p, e := g.End(); len(p) != 0 || e != api.ErrState {
		t.Errorf("End behind an End: %q, %d", p, e)
	}
	wantHeld(t, g, 0)
}

// P6.1: numbers of SplitMix64 that are known, their upper halves.
func TestTableKnown(t *testing.T) {
	zero := gear.Table(0)
	for i, want := range []uint32{0xe220a839, 0x6e789e6a, 0x06c45d18, 0xf88bb8a8, 0x1b39896a} {
		if zero[i] != want {
			t.Errorf("Table(0)[%d]: %08x", i, zero[i])
		}
	}
	known := gear.Table(1234567)
	for i, want := range []uint64{6457827717110365317, 3203168211198807973, 9817491932198370423, 4593380528125082431, 16408922859458223821} {
		if known[i] != uint32(want>>32) {
			t.Errorf("Table(1234567)[%d]: %08x", i, known[i])
		}
	}
}

// P6.1: all 256 numbers; a seed that is one step further has the table that is shifted by one.
func TestTableAll(t *testing.T) {
	const step = 0x9e3779b97f4a7c15
	for _, seed := range []uint64{0, 1, 7, 1 << 63, math.MaxUint64, math.MaxUint64 - 5, step, math.MaxUint64 - step + 1} {
		table, next := gear.Table(seed), gear.Table(seed+step)
		if !slices.Equal(table[1:], next[:255]) {
			t.Errorf("Table(%x) is not shifted", seed)
		}
		x := seed
		for i, got := range table {
			x += step
			y := x ^ x>>30
			y *= 0xbf58476d1ce4e5b9
			y ^= y >> 27
			y *= 0x94d049bb133111eb
			y ^= y >> 31
			if got != uint32(y>>32) {
				t.Errorf("Table(%x)[%d]: %08x", seed, i, got)
			}
		}
		if table != gear.Table(seed) {
			t.Error("a table is not always the same")
		}
	}
}

// P6.1
func TestCheck(t *testing.T) {
	for _, c := range cuts() {
		if e := gear.Check(c); e != api.OK {
			t.Errorf("%v: %d", c, e)
		}
	}
	far := []int{math.MinInt, math.MinInt + 1, -512, -2, -1, 0, math.MaxInt}
	var bad []api.Cut
	for _, x := range far {
		bad = append(bad, api.Cut{Min: x, Avg: 4, Max: 20}, api.Cut{Min: 4, Avg: x, Max: 20}, api.Cut{Min: 4, Avg: 4, Max: x}, api.Cut{Min: x, Avg: 4, Max: x}, api.Cut{Min: x, Avg: x, Max: x})
	}
	bad = append(bad, api.Cut{Min: 21, Avg: 4, Max: 20}, api.Cut{Min: 4, Avg: 4, Max: 513}, api.Cut{Min: 513, Avg: 4, Max: 513}, api.Cut{Min: 513, Avg: 4, Max: 512}, api.Cut{})
	for _, c := range bad {
		if e := gear.Check(c); e != api.ErrArg {
			t.Errorf("%v: %d", c, e)
		}
	}
	for avg := -3; avg < 1100; avg++ {
		want := api.ErrArg
		if slices.Contains([]int{1, 2, 4, 8, 16, 32, 64, 128, 256}, avg) {
			want = api.OK
		}
		if e := gear.Check(api.Cut{Min: 1, Avg: avg, Max: 512}); e != want {
			t.Errorf("Avg %d: %d", avg, e)
		}
	}
	for _, avg := range []int{1 << 31, 1 << 32, 1 << 62, math.MinInt} {
		if gear.Check(api.Cut{Min: 1, Avg: avg, Max: 512}) != api.ErrArg {
			t.Errorf("Avg %d", avg)
		}
	}
}

// P6.1, P6.3: New and All have Check's error, and nothing beside it.
func TestBadBounds(t *testing.T) {
	for _, c := range []api.Cut{{}, {Min: 4, Avg: 3, Max: 20}, {Min: 4, Avg: 4, Max: 513}, {Min: -1, Avg: 1, Max: -1}, {Min: math.MinInt, Avg: math.MinInt, Max: math.MaxInt}} {
		if g, e := gear.New(c, gear.Table(1)); g != nil || e != api.ErrArg {
			t.Errorf("New(%v): %v, %d", c, g, e)
		}
		for _, p := range [][]byte{nil, []byte("abc")} {
			if row, e := gear.All(c, gear.Table(1), p); len(row) != 0 || e != api.ErrArg {
				t.Errorf("All(%v): %q, %d", c, row, e)
			}
		}
	}
}

// P6.1: a new cutter holds nothing.
func TestNewHoldsNothing(t *testing.T) {
	for _, c := range cuts() {
		g := made(t, c, gear.Table(3))
		wantHeld(t, g, 0)
		wantWrite(t, g, nil)
		wantWrite(t, g, []byte{})
		wantHeld(t, g, 0)
		wantEnd(t, g, "")
		wantOver(t, g)
	}
}

// The chapter's example, piece by piece.
func TestExample(t *testing.T) {
	c := api.Cut{Min: 2, Avg: 1, Max: 9}
	row, e := gear.All(c, gear.Table(0), []byte("abcde"))
	if e != api.OK {
		t.Fatal(e)
	}
	wantTexts(t, row, "ab", "cd", "e")
	g := made(t, c, gear.Table(0))
	wantWrite(t, g, []byte("a"))
	wantHeld(t, g, 1)
	wantWrite(t, g, []byte("bcd"), "ab", "cd")
	wantHeld(t, g, 0)
	wantWrite(t, g, []byte("e"))
	wantHeld(t, g, 1)
	wantEnd(t, g, "e")
	wantOver(t, g)
}

// P6.2: a hash ends a chunk, if it is below 2^32 / Avg, not at it; each Avg.
func TestHashEdge(t *testing.T) {
	for avg := 2; avg <= 256; avg *= 2 {
		edge := uint32((1 << 32) / avg)
		var table [256]uint32
		for i := range table {
			table[i] = math.MaxUint32
		}
		table['a'], table['b'] = edge-1, edge
		g := made(t, api.Cut{Min: 1, Avg: avg, Max: 4}, table)
		wantWrite(t, g, []byte("a"), "a")
		wantWrite(t, g, []byte("b"))
		wantHeld(t, g, 1)
	}
	// At 1 all hashes are below, the greatest one too.
	var table [256]uint32
	table['z'] = math.MaxUint32
	wantWrite(t, made(t, api.Cut{Min: 1, Avg: 1, Max: 4}, table), []byte("zz"), "z", "z")
}

// P6.2: the hash goes round, counts bytes ahead of Min too, and begins anew with each chunk.
func TestHash(t *testing.T) {
	var table [256]uint32
	table['a'], table['b'], table['c'] = 1<<31, 1<<31+1, 1<<30
	c := api.Cut{Min: 1, Avg: 2, Max: 100}
	wantWrite(t, made(t, c, table), []byte("a"))
	wantWrite(t, made(t, c, table), []byte("ac"), "ac")       // 2 * 2^31 goes round: 2^30
	wantWrite(t, made(t, c, table), []byte("aba"))            // 2^31 + 1; then 2 + 2^31
	wantWrite(t, made(t, c, table), []byte("abac"), "abac")   // 4 + 2^30
	wantWrite(t, made(t, c, table), []byte("cac"), "c", "ac") // a alone is 2^31
	c.Min = 2
	wantWrite(t, made(t, c, table), []byte("cx")) // 2^31, as the first byte counts
	wantWrite(t, made(t, c, table), []byte("cxx"), "cxx")
}

// P6.2: bounds, where all hashes are great: only Max ends a chunk.
func TestMaxEnds(t *testing.T) {
	var table [256]uint32
	for i := range table {
		table[i] = math.MaxUint32 // k bytes: a hash of 2^32 - 2^k + 1, which is great up to 31 bytes
	}
	for most := 1; most <= 31; most++ {
		g := made(t, api.Cut{Min: 1, Avg: 2, Max: most}, table)
		row, _ := g.Write(make([]byte, 3*most-1))
		if len(row) != 2 || len(row[0]) != most || len(row[1]) != most {
			t.Fatal("Max", most, row)
		}
		wantHeld(t, g, most-1)
	}
}

// P6.2, P6.3, P6.4: all bounds and tables against the chapter's words: the row, what is held, and the last chunk.
func TestAgainstPlain(t *testing.T) {
	for i, c := range cuts() {
		for j, table := range tables() {
			for _, p := range [][]byte{nil, text(int64(i+20*j), 1500), make([]byte, 1500), bytes.Repeat([]byte("abc"), 400)} {
				row, rest := plain(c, table, p)
				g := made(t, c, table)
				got, e := g.Write(p)
				if e != api.OK {
					t.Fatal(e)
				}
				wantRow(t, got, row)
				wantHeld(t, g, len(rest))
				wantEnd(t, g, string(rest))
				wantOver(t, g)
				if len(rest) > 0 {
					row = append(row, rest)
				}
				all, e := gear.All(c, table, p)
				if e != api.OK {
					t.Fatal(e)
				}
				wantRow(t, all, row)
				wantBounds(t, c, all, p)
			}
		}
	}
}

// wantBounds: P6.4.
func wantBounds(t *testing.T, c api.Cut, row [][]byte, p []byte) {
	t.Helper()
	if !bytes.Equal(slices.Concat(row...), p) {
		t.Fatalf("%v: the chunks are not the stream", c)
	}
	for i, b := range row {
		if len(b) < 1 || len(b) > c.Max || len(b) < c.Min && i < len(row)-1 {
			t.Fatalf("%v: the chunk %d of %d has %d bytes", c, i, len(row), len(b))
		}
	}
}

// P6.4: in which pieces a stream comes plays no part.
func TestPieces(t *testing.T) {
	r := rand.New(rand.NewSource(4))
	for i, c := range cuts() {
		for _, table := range tables() {
			p := text(int64(i), 900)
			want, _ := gear.All(c, table, p)
			for _, most := range []int{1, 2, 7, 40, 600} {
				g, at := made(t, c, table), 0
				var row [][]byte
				for at < len(p) {
					n := min(r.Intn(most+1), len(p)-at)
					l, e := g.Write(p[at : at+n])
					if e != api.OK {
						t.Fatal(e)
					}
					row, at = append(row, l...), at+n
					if done := len(slices.Concat(row...)); g.Held() != at-done {
						t.Fatal("holds", g.Held(), at, done)
					}
				}
				last, _ := g.End()
				if len(last) > 0 {
					row = append(row, last)
				}
				wantRow(t, row, want)
			}
		}
	}
}

// P6.5: behind a chunk's end what stood ahead plays no part.
func TestAlikeFromAnEndOn(t *testing.T) {
	for i, c := range cuts() {
		table, tail := gear.Table(uint64(i)), text(int64(i), 700)
		want, _ := gear.All(c, table, tail)
		for n := range 60 {
			head, rest := plain(c, table, text(int64(n), 100+20*n))
			ahead := slices.Concat(head...)
			all, _ := gear.All(c, table, slices.Concat(ahead, tail))
			wantRow(t, all, slices.Concat(head, want))
			// From the first end in both streams on: the chunks behind it are the same.
			wantSameTail(t, slices.Concat(ahead, tail), all, c, table, rest)
		}
	}
}

// wantSameTail holds the chunks of a stream against those of another one, of other bytes ahead: from a common end on they are alike.
func wantSameTail(t *testing.T, p []byte, row [][]byte, c api.Cut, table [256]uint32, other []byte) {
	t.Helper()
	moved, _ := gear.All(c, table, slices.Concat(other, p))
	ends := func(row [][]byte, from int) map[int]int {
		m, at := map[int]int{0 - from: 0}, 0
		for i, b := range row {
			at += len(b)
			m[at-from] = i + 1
		}
		return m
	}
	one, two := ends(row, 0), ends(moved, len(other))
	for at, i := range one {
		if j, both := two[at]; both && at >= 0 {
			wantRow(t, moved[j:], row[i:])
		}
	}
}

// P6.3, and the rule P1: of nil, and of a struct that no call made.
func TestNilAndUnmade(t *testing.T) {
	var none *gear.Cutter
	for _, p := range [][]byte{nil, {}, []byte("abc")} {
		if row, e := none.Write(p); len(row) != 0 || e != api.ErrNil {
			t.Error("Write", row, e)
		}
	}
	if p, e := none.End(); len(p) != 0 || e != api.ErrNil {
		t.Error("End", p, e)
	}
	if none.Held() != 0 || none.Fork() != nil {
		t.Error("nil tells something")
	}
	unmade := &gear.Cutter{}
	unmade.Fork().Write(text(1, 100))
	unmade.Write(text(1, 100))
	unmade.Held()
	unmade.End()
}

// P6.3, P4: of a cutter and its fork what becomes of the one changes nothing of the other one. Bytes come to both in turn.
func TestFork(t *testing.T) {
	c, table := api.Cut{Min: 30, Avg: 64, Max: 200}, gear.Table(5)
	for n := range 150 {
		head, tails := text(int64(n), n), [2][]byte{text(1000, 500), text(2000, 500)}
		g := made(t, c, table)
		first, _ := g.Write(head)
		both := [2]*gear.Cutter{g, g.Fork()}
		if both[0] == both[1] || both[0].Held() != both[1].Held() {
			t.Fatal("a fork is unlike")
		}
		rows := [2][][]byte{slices.Clone(first), slices.Clone(first)}
		for i := range tails[0] {
			for k, g := range both {
				l, e := g.Write(tails[k][i : i+1])
				if e != api.OK {
					t.Fatal(e)
				}
				rows[k] = append(rows[k], l...)
			}
		}
		for k, g := range both {
			last, e := g.End()
			if e != api.OK {
				t.Fatal(e)
			}
			if len(last) > 0 {
				rows[k] = append(rows[k], last)
			}
			wantOver(t, g)
		}
		for k, tail := range tails {
			want, _ := gear.All(c, table, slices.Concat(head, tail))
			wantRow(t, rows[k], want)
		}
	}
}

// P6.3, P4: a fork behind an End has ended; an End ends one of both only.
func TestForkAndEnd(t *testing.T) {
	c, table := api.Cut{Min: 30, Avg: 64, Max: 200}, gear.Table(5)
	over := made(t, c, table)
	over.Write([]byte("abc"))
	fork, other := over.Fork(), over.Fork()
	wantEnd(t, over, "abc")
	wantOver(t, over.Fork())
	wantHeld(t, fork, 3)
	wantWrite(t, fork, []byte("d"))
	wantEnd(t, fork, "abcd")
	wantEnd(t, other, "abc")
}

// fill makes all of a chunk, and the room behind it, one byte.
func fill(b []byte, x byte) {
	for i := range b[:cap(b)] {
		b[:cap(b)][i] = x
	}
}

// P3: what is handed in stays as it is, with the room behind it, and is not kept.
func TestNothingHandedInIsKept(t *testing.T) {
	c, table := api.Cut{Min: 4, Avg: 8, Max: 20}, gear.Table(7)
	p := text(6, 500)
	want, _ := gear.All(c, table, p)
	room := slices.Clone(p)
	g := made(t, c, table)
	one, _ := g.Write(room[:250])
	if !bytes.Equal(room, p) {
		t.Error("what was handed in is changed")
	}
	clear(room[:250])
	two, _ := g.Write(room[250:])
	clear(room)
	last, _ := g.End()
	row := slices.Concat(one, two)
	if len(last) > 0 {
		row = append(row, last)
	}
	wantRow(t, row, want)
}

// P3: chunks share no memory with each other, with the text, or with what is held.
func TestNothingAnsweredIsShared(t *testing.T) {
	c, table := api.Cut{Min: 4, Avg: 8, Max: 20}, gear.Table(7)
	p := text(6, 500)
	kept := slices.Clone(p)
	want, rest := plain(c, table, kept)
	g := made(t, c, table)
	row, _ := g.Write(p)
	fork := g.Fork()
	for i, b := range row {
		if !bytes.Equal(b, want[i]) {
			t.Fatal("a chunk lies in another one", i)
		}
		fill(b, 0xee)
	}
	if !bytes.Equal(p, kept) {
		t.Error("a chunk lies in the text")
	}
	last, _ := g.End()
	if !bytes.Equal(last, rest) {
		t.Error("what is held lies in a chunk")
	}
	fill(last, 0xdd)
	wantEnd(t, fork, string(rest))
	all, _ := gear.All(c, table, p)
	for i, b := range all {
		if i < len(want) && !bytes.Equal(b, want[i]) {
			t.Fatal("a chunk of All lies in another one", i)
		}
		fill(b, 0xcc)
	}
	if !bytes.Equal(p, kept) {
		t.Error("a chunk of All lies in the text")
	}
}

// P3: a row that is told is not gone on with.
func TestRowsApart(t *testing.T) {
	g := made(t, api.Cut{Min: 1, Avg: 1, Max: 1}, gear.Table(0))
	one, _ := g.Write([]byte("abc"))
	two, _ := g.Write([]byte("de"))
	wantTexts(t, append(one, []byte("x")), "a", "b", "c", "x")
	wantTexts(t, two, "d", "e")
}

// P6: cutters know nothing of each other, and nothing of a table that is changed later.
func TestCuttersApart(t *testing.T) {
	c, table, p := api.Cut{Min: 4, Avg: 8, Max: 20}, gear.Table(7), text(9, 600)
	want, _ := gear.All(c, table, p)
	one, two := made(t, c, table), made(t, c, table)
	clear(table[:])
	first, _ := one.Write(p[:300])
	two.Write(text(10, 77))
	second, _ := one.Write(p[300:])
	last, _ := one.End()
	row := slices.Concat(first, second)
	if len(last) > 0 {
		row = append(row, last)
	}
	wantRow(t, row, want)
}

// A long stream of the least chunks ends soon: a row does not grow by being laid anew each time.
func TestManyChunks(t *testing.T) {
	p := make([]byte, 1<<20)
	row, e := gear.All(api.Cut{Min: 1, Avg: 1, Max: 1}, gear.Table(0), p)
	if e != api.OK || len(row) != len(p) {
		t.Error(len(row), e)
	}
}
