package parity_test

import (
	"bytes"
	"fmt"
	"math"
	"math/rand"
	"slices"
	"testing"

	"aumbry/api"
	"aumbry/parity"
)

// The signatures that the chapter lists.
var (
	_ func(data [][]byte, m int) ([][]byte, api.Errno)   = parity.Encode
	_ func(shards [][]byte, k int) ([][]byte, api.Errno) = parity.Repair
	_ func(shards [][]byte, k int) (bool, api.Errno)     = parity.Check
	_ func(shards [][]byte, k int) (int, api.Errno)      = parity.Locate
)

// group is data and its parity.
func group(t *testing.T, data [][]byte, m int) [][]byte {
	t.Helper()
	p, e := parity.Encode(data, m)
	if e != api.OK || len(p) != m {
		t.Fatalf("Encode of %d, %d: %d of them, %d", len(data), m, len(p), e)
	}
	return append(copied(data), p...)
}

func wantRepair(t *testing.T, shards [][]byte, k int, want [][]byte) {
	t.Helper()
	got, e := parity.Repair(shards, k)
	if e != api.OK || !sameRows(got, want) {
		t.Fatalf("Repair(%v, %d): %v, %d; want %v", shards, k, got, e, want)
	}
}

func wantCheck(t *testing.T, shards [][]byte, k int, want bool) {
	t.Helper()
	if is, e := parity.Check(shards, k); is != want || e != api.OK {
		t.Fatalf("Check of %d, %d: %v, %d; want %v", len(shards), k, is, e, want)
	}
}

func wantLocate(t *testing.T, shards [][]byte, k, want int, errno api.Errno) {
	t.Helper()
	if n, e := parity.Locate(shards, k); n != want || e != errno {
		t.Fatalf("Locate of %d, %d: %d, %d; want %d, %d", len(shards), k, n, e, want, errno)
	}
}

// wantRefused: all three calls that take shards tell the same error, and nothing beside.
func wantRefused(t *testing.T, what string, shards [][]byte, k int, want api.Errno) {
	t.Helper()
	if l, e := parity.Repair(shards, k); e != want || len(l) != 0 {
		t.Errorf("%s: Repair: %v, %d; want %d", what, l, e, want)
	}
	wantNotHeld(t, what, shards, k, want)
}

// wantNotHeld: neither Check nor Locate tells anything but the error.
func wantNotHeld(t *testing.T, what string, shards [][]byte, k int, want api.Errno) {
	t.Helper()
	if is, e := parity.Check(shards, k); e != want || is {
		t.Errorf("%s: Check: %v, %d; want %d", what, is, e, want)
	}
	if n, e := parity.Locate(shards, k); e != want || n != 0 {
		t.Errorf("%s: Locate: %d, %d; want %d", what, n, e, want)
	}
}

func wantNoParity(t *testing.T, what string, data [][]byte, m int, want api.Errno) {
	t.Helper()
	if l, e := parity.Encode(data, m); e != want || len(l) != 0 {
		t.Errorf("%s: %v, %d; want %d", what, l, e, want)
	}
}

// sized is n shards of so many bytes.
func sized(n, size int) [][]byte {
	l := make([][]byte, n)
	for i := range l {
		l[i] = make([]byte, size)
	}
	return l
}

// P23.1: the values at the points behind.
func TestEncode(t *testing.T) {
	r := rand.New(rand.NewSource(1))
	for _, k := range []int{1, 2, 3, 7, 31, 32} {
		for _, m := range []int{0, 1, 2, 5, 16} {
			for _, n := range []int{1, 2, 9} {
				data := rows(r, k, n)
				var places []int
				for i := range k {
					places = append(places, i)
				}
				want := plainGroup(places, data, k+m)[k:]
				if got, e := parity.Encode(data, m); e != api.OK || !sameRows(got, want) {
					t.Fatalf("%v, %d: %v, %d; want %v", data, m, got, e, want)
				}
			}
		}
	}
	line, e := parity.Encode([][]byte{{5}, {7}}, 1)
	if e != api.OK || !sameRows(line, [][]byte{{1}}) {
		t.Errorf("a line: %v, %d", line, e)
	}
	same, e := parity.Encode([][]byte{{5, 0, 9}}, 3)
	if e != api.OK || !sameRows(same, [][]byte{{5, 0, 9}, {5, 0, 9}, {5, 0, 9}}) {
		t.Errorf("one shard alone: %v, %d", same, e)
	}
}

// P23.1: shards without bytes are shards: there is no lost one among data.
func TestEncodeOfNothing(t *testing.T) {
	for _, data := range [][][]byte{{{}}, {nil}, {nil, {}, nil}, sized(32, 0)} {
		got, e := parity.Encode(data, 2)
		if e != api.OK || len(got) != 2 || len(got[0]) != 0 || len(got[1]) != 0 {
			t.Errorf("%v: %v, %d", data, got, e)
		}
	}
	if got, e := parity.Encode([][]byte{{1}, {2}}, 0); e != api.OK || len(got) != 0 {
		t.Errorf("no parity: %v, %d", got, e)
	}
	wantNoParity(t, "nil is of no bytes", [][]byte{nil, {1}}, 1, api.ErrForm)
	wantNoParity(t, "nil is of no bytes", [][]byte{{1}, nil}, 1, api.ErrForm)
}

// P23.1, P2, P5: the errors, and which is named first.
func TestEncodeErrors(t *testing.T) {
	long, longest, unlike := sized(3, 4097), sized(3, 1<<20), [][]byte{{1}, {1, 2}, {1}}
	for _, m := range []int{-1, -2, 17, 18, 255, 256, math.MaxInt, math.MinInt} {
		for _, data := range [][][]byte{sized(1, 1), sized(32, 4096), long, unlike, nil, sized(33, 1)} {
			wantNoParity(t, fmt.Sprint("m is ", m), data, m, api.ErrArg)
		}
	}
	for _, m := range []int{0, 1, 16} {
		for _, data := range [][][]byte{nil, {}, sized(33, 1), sized(33, 4097), append(sized(40, 1), []byte{1, 2}), sized(256, 0), sized(300, 5)} {
			wantNoParity(t, fmt.Sprint("shards: ", len(data)), data, m, api.ErrArg)
		}
		wantNoParity(t, "long", long, m, api.ErrLimit)
		wantNoParity(t, "longest", longest, m, api.ErrLimit)
		wantNoParity(t, "one is long", append(sized(3, 1), make([]byte, 4097)), m, api.ErrLimit)
		wantNoParity(t, "unlike and long", append(unlike, make([]byte, 4097)), m, api.ErrLimit)
		wantNoParity(t, "unlike", unlike, m, api.ErrForm)
		wantNoParity(t, "the last one is shorter", append(sized(31, 4096), make([]byte, 4095)), m, api.ErrForm)
		wantNoParity(t, "the first one is longer", append([][]byte{{1, 2}}, sized(2, 1)...), m, api.ErrForm)
	}
}

// P23.2, P23.4 (B6): whichever are lost, as many as there is parity, or fewer.
func TestRepairAll(t *testing.T) {
	r := rand.New(rand.NewSource(2))
	for k := 1; k <= 5; k++ {
		for m := 0; m <= 5; m++ {
			all := group(t, rows(r, k, 3), m)
			for set := range 1 << (k + m) {
				var lost []int
				for i := range k + m {
					if set>>i&1 == 1 {
						lost = append(lost, i)
					}
				}
				if len(lost) <= m {
					wantRepair(t, without(all, lost...), k, all)
				} else {
					wantRefused(t, fmt.Sprint("lost: ", lost), without(all, lost...), k, api.ErrShort)
				}
			}
		}
	}
}

// P23.4 (B6): groups of all sizes, the greatest as well.
func TestRepairGreat(t *testing.T) {
	r := rand.New(rand.NewSource(3))
	for _, size := range [][3]int{{32, 16, 4096}, {32, 16, 1}, {1, 16, 4096}, {32, 1, 700}, {20, 9, 129}} {
		k, m := size[0], size[1]
		all := group(t, rows(r, k, size[2]), m)
		wantRepair(t, all, k, all)
		wantRepair(t, without(all, r.Perm(k)[:min(k, m)]...), k, all)
		for range 3 {
			wantRepair(t, without(all, r.Perm(k + m)[:m]...), k, all)
			wantRefused(t, "one more", without(all, r.Perm(k + m)[:m+1]...), k, api.ErrShort)
		}
	}
}

// P23.2: the first ones that are not lost count; what stands behind them is replaced.
func TestRepairByTheFirst(t *testing.T) {
	r := rand.New(rand.NewSource(4))
	for range 400 {
		k, m := 1+r.Intn(6), r.Intn(7)
		shards := rows(r, k+m, 1+r.Intn(3))
		for _, i := range r.Perm(k + m)[:r.Intn(m+1)] {
			shards[i] = nil
		}
		wantRepair(t, shards, k, plainRepair(shards, k))
	}
	line := [][]byte{{5}, {7}, {1}}
	wantRepair(t, [][]byte{{5}, {7}, {99}}, 2, line)
	wantRepair(t, [][]byte{{5}, nil, {1}}, 2, line)
	wantRepair(t, [][]byte{nil, {7}, {1}}, 2, line)
	wantRepair(t, [][]byte{{5}, {7}, nil}, 2, line)
}

// P23.2: as many shards as there are of data: nothing may be lost, and all is right.
func TestWithoutParity(t *testing.T) {
	r := rand.New(rand.NewSource(5))
	for _, k := range []int{1, 2, 5, 32} {
		shards := rows(r, k, 4)
		wantRepair(t, shards, k, shards)
		wantCheck(t, shards, k, true)
		wantLocate(t, shards, k, -1, api.OK)
		wantRefused(t, "one is lost", without(shards, r.Intn(k)), k, api.ErrShort)
	}
}

// P23.2: a shard without bytes is not lost, and what is told of it is not, either.
func TestShardsWithoutBytes(t *testing.T) {
	wantCheck(t, sized(5, 0), 3, true)
	wantLocate(t, sized(5, 0), 3, -1, api.OK)
	for _, shards := range [][][]byte{sized(5, 0), {nil, {}, {}, {}, nil}, {{}, {}, {}, nil, nil}} {
		got, e := parity.Repair(shards, 3)
		if e != api.OK || !sameRows(got, sized(5, 0)) {
			t.Fatalf("%v, %d", got, e)
		}
		wantCheck(t, got, 3, true)
	}
	p, _ := parity.Encode(sized(3, 0), 2)
	wantCheck(t, append(sized(3, 0), p...), 3, true)
	wantRefused(t, "too few", [][]byte{nil, nil, nil, {}, {}}, 3, api.ErrShort)
	wantNotHeld(t, "one is lost", [][]byte{nil, {}, {}, {}}, 3, api.ErrShort)
	wantRefused(t, "some have bytes", [][]byte{{}, {}, {1}, {}}, 3, api.ErrForm)
}

// flaws are shards for k = 2, in the order in which the chapter names their errors.
func flaws() []struct {
	what   string
	shards [][]byte
	errno  api.Errno
} {
	long := make([]byte, 4097)
	return []struct {
		what   string
		shards [][]byte
		errno  api.Errno
	}{
		{"one shard", sized(1, 1), api.ErrArg},
		{"none", nil, api.ErrArg},
		{"one shard, and long", sized(1, 4097), api.ErrArg},
		{"too many", sized(19, 1), api.ErrArg},
		{"too many, all lost", make([][]byte, 19), api.ErrArg},
		{"too many, long, unlike", append(sized(18, 1), long), api.ErrArg},
		{"far too many", sized(1000, 0), api.ErrArg},
		{"long", sized(4, 4097), api.ErrLimit},
		{"long and unlike", [][]byte{{1}, {1}, long}, api.ErrLimit},
		{"unlike and long", [][]byte{{1}, {1, 2}, long}, api.ErrLimit},
		{"long, and too few", [][]byte{nil, nil, long}, api.ErrLimit},
		{"unlike", [][]byte{{1}, {1, 2}, {1}}, api.ErrForm},
		{"unlike behind the first ones", [][]byte{{1}, {1}, {1}, {}}, api.ErrForm},
		{"unlike with a lost one", [][]byte{nil, {1}, {1, 2}}, api.ErrForm},
		{"unlike with a lost one between", [][]byte{{1}, nil, {1, 2}, nil}, api.ErrForm},
		{"too few", [][]byte{nil, nil, {1}}, api.ErrShort},
		{"all are lost", make([][]byte, 18), api.ErrShort},
	}
}

// P23.2, P23.3, P2: the errors, and which is named first.
func TestErrors(t *testing.T) {
	for _, f := range flaws() {
		wantRefused(t, f.what, f.shards, 2, f.errno)
	}
}

// P23.2, P1, P5: a k of any size.
func TestAnyK(t *testing.T) {
	for _, k := range []int{0, -1, 33, 34, 48, 256, 257, math.MaxInt, math.MaxInt - 15, math.MinInt, math.MinInt + 3} {
		for _, shards := range [][][]byte{nil, sized(1, 1), sized(33, 1), sized(48, 4097), sized(49, 1), {{1}, {2, 3}}, make([][]byte, 5)} {
			wantRefused(t, fmt.Sprint(k, len(shards)), shards, k, api.ErrArg)
		}
	}
	for k := 1; k <= 32; k++ {
		wantRefused(t, "too few", sized(k-1, 1), k, api.ErrArg)
		wantRefused(t, "too many", sized(k+17, 1), k, api.ErrArg)
		wantRepair(t, sized(k, 1), k, sized(k, 1))
		wantRepair(t, sized(k+16, 1), k, sized(k+16, 1))
	}
}

// P23.1, P23.2: a shard has MaxShard bytes at most.
func TestLongShards(t *testing.T) {
	all := group(t, sized(2, 4096), 2)
	wantRepair(t, all, 2, all)
	wantCheck(t, all, 2, true)
	all[3] = make([]byte, 4097)
	wantRefused(t, "one is longer", all, 2, api.ErrLimit)
}

// P23.3: one that is lost, though enough are left.
func TestCheckOfLost(t *testing.T) {
	all := group(t, [][]byte{{1, 2}, {3, 4}}, 3)
	for i := range all {
		wantNotHeld(t, "one is lost", without(all, i), 2, api.ErrShort)
		wantRepair(t, without(all, i), 2, all)
	}
	for _, f := range flaws() {
		if len(f.shards) > 0 {
			wantNotHeld(t, "the first one is lost: "+f.what, without(f.shards, 0), 2, errnoWithout(f.shards))
		}
	}
}

// errnoWithout is what the chapter names first of shards for k = 2 of which the first one is lost.
func errnoWithout(shards [][]byte) api.Errno {
	if len(shards) < 2 || len(shards) > 18 {
		return api.ErrArg
	}
	left := slices.DeleteFunc(slices.Clone(shards[1:]), func(s []byte) bool { return s == nil })
	for _, s := range left {
		if len(s) > 4096 {
			return api.ErrLimit
		}
	}
	for _, s := range left {
		if len(s) != len(left[0]) {
			return api.ErrForm
		}
	}
	return api.ErrShort
}

// P23.3: each bit of each shard counts.
func TestCheck(t *testing.T) {
	r := rand.New(rand.NewSource(6))
	for _, size := range [][2]int{{1, 1}, {2, 1}, {3, 2}, {5, 4}, {32, 16}} {
		k, m := size[0], size[1]
		all := group(t, rows(r, k, 3), m)
		wantCheck(t, all, k, true)
		wantLocate(t, all, k, -1, api.OK)
		for i := range all {
			for bit := range 24 {
				bad := copied(all)
				bad[i][bit/8] ^= 1 << (bit % 8)
				wantCheck(t, bad, k, false)
			}
		}
	}
}

// P23.3, P23.5 (B6): whichever shard was changed, and wherever.
func TestLocate(t *testing.T) {
	r := rand.New(rand.NewSource(7))
	for _, k := range []int{1, 2, 3, 8, 32} {
		for _, m := range []int{2, 3, 4, 16} {
			n := 1 + r.Intn(9)
			all := group(t, rows(r, k, n), m)
			for i := range all {
				one, some, whole := copied(all), copied(all), copied(all)
				one[i][r.Intn(n)] ^= 1 << r.Intn(8)
				some[i][0] ^= 1
				some[i][n-1] ^= 0x80
				for j := range whole[i] {
					whole[i][j] ^= byte(1 + r.Intn(255))
				}
				for _, bad := range [][][]byte{one, some, whole} {
					wantLocate(t, bad, k, i, api.OK)
					wantRepair(t, without(bad, i), k, all)
				}
			}
		}
	}
}

// P23.5: the greatest group; a change of the last byte alone, and of all.
func TestLocateGreat(t *testing.T) {
	all := group(t, rows(rand.New(rand.NewSource(8)), 32, 4096), 16)
	for _, i := range []int{0, 1, 31, 32, 46, 47} {
		last, whole := copied(all), copied(all)
		last[i][4095] ^= 0x40
		for j := range whole[i] {
			whole[i][j] ^= byte(j) | 1
		}
		wantLocate(t, last, 32, i, api.OK)
		wantLocate(t, whole, 32, i, api.OK)
	}
	two := copied(all)
	two[46][4095] ^= 1
	two[47][4095] ^= 1
	wantLocate(t, two, 32, 0, api.ErrRot)
}

// P23.3: with one shard of parity each may be the wrong one.
func TestLocateWithOneParity(t *testing.T) {
	r := rand.New(rand.NewSource(9))
	for _, k := range []int{1, 2, 5, 32} {
		all := group(t, rows(r, k, 2), 1)
		for i := range all {
			bad := copied(all)
			bad[i][1] ^= 3
			wantLocate(t, bad, k, 0, api.ErrRot)
		}
	}
}

// P23.3: two shards that were changed at unlike places: each place has one that is to blame, all of them together have none.
func TestLocateOfTwo(t *testing.T) {
	r := rand.New(rand.NewSource(10))
	for _, m := range []int{2, 3, 16} {
		all := group(t, rows(r, 4, 5), m)
		for i := range all {
			for j := range all {
				if i == j {
					continue
				}
				bad := copied(all)
				bad[i][1] ^= 7
				bad[j][3] ^= 7
				wantLocate(t, bad, 4, 0, api.ErrRot)
			}
		}
	}
}

// P23.3: any shards, against the chapter's words.
func TestLocateOfAny(t *testing.T) {
	r := rand.New(rand.NewSource(11))
	met := map[string]int{}
	for range 3000 {
		k, m, n := 1+r.Intn(5), r.Intn(5), r.Intn(4)
		all := group(t, rows(r, k, n), m)
		for range r.Intn(4) {
			if n > 0 {
				all[r.Intn(k+m)][r.Intn(n)] ^= byte(r.Intn(4))
			}
		}
		want, errno := plainLocate(all, k)
		wantLocate(t, all, k, want, errno)
		wantCheck(t, all, k, want == -1)
		switch {
		case errno != api.OK:
			met["rot"]++
		case want < 0:
			met["a group"]++
		default:
			met["one"]++
		}
	}
	for _, what := range []string{"rot", "a group", "one"} {
		if met[what] < 200 {
			t.Error(what, met[what])
		}
	}
}

// P23.3: of two changed shards a third one may be told: all that is asked for is a group of the others.
func TestLocateOfAnother(t *testing.T) {
	wantLocate(t, [][]byte{{5}, {6}, {6}}, 1, 0, api.OK)
	wantLocate(t, [][]byte{{6}, {5}, {6}}, 1, 1, api.OK)
	wantLocate(t, [][]byte{{5}, {6}, {7}}, 1, 0, api.ErrRot)
	wantLocate(t, [][]byte{{5}, {5}, {6}, {6}}, 1, 0, api.ErrRot)
}

// P23.6
func TestParityOfXor(t *testing.T) {
	r := rand.New(rand.NewSource(12))
	for range 100 {
		k, m, n := 1+r.Intn(32), r.Intn(17), r.Intn(6)
		a, b := rows(r, k, n), rows(r, k, n)
		both := group(t, xor(a, b), m)
		if want := xor(group(t, a, m), group(t, b, m)); !sameRows(both, want) {
			t.Fatalf("%v, %v: %v; want %v", a, b, both, want)
		}
	}
}

func xor(a, b [][]byte) [][]byte {
	l := copied(a)
	for i := range l {
		for j := range l[i] {
			l[i][j] ^= b[i][j]
		}
	}
	return l
}

// roomy is rows with spare room behind each, and behind the list.
func roomy(rows [][]byte) ([][]byte, func() bool) {
	whole := make([][]byte, 0, len(rows)+3)
	for _, r := range rows {
		if r == nil {
			whole = append(whole, nil)
			continue
		}
		whole = append(whole, append(append(make([]byte, 0, len(r)+4), r...), 9, 8, 7, 6)[:len(r)])
	}
	list := append(whole, []byte("x"), []byte("y"), []byte("z"))
	same := func() bool {
		for i, r := range rows {
			if (list[i] == nil) != (r == nil) || !bytes.Equal(list[i], r) || r != nil && !bytes.Equal(list[i][:len(r)+4][len(r):], []byte{9, 8, 7, 6}) {
				return false
			}
		}
		return sameRows(list[len(rows):], [][]byte{[]byte("x"), []byte("y"), []byte("z")})
	}
	return list[:len(rows)], same
}

// P3: what is handed in stays as it is; what is told is new memory, each shard of it.
func TestMemory(t *testing.T) {
	r := rand.New(rand.NewSource(13))
	data, same := roomy(rows(r, 4, 6))
	p, _ := parity.Encode(data, 3)
	all := append(copied(data), copied(p)...)
	all[5][2] ^= 1
	shards, alsoSame := roomy(without(all, 1, 4))
	told, _ := parity.Repair(shards, 4)
	whole, wholeSame := roomy(all)
	parity.Check(whole, 4)
	parity.Locate(whole, 4)
	if !same() || !alsoSame() || !wholeSame() {
		t.Fatal("what is handed in is changed")
	}
	for _, answer := range [][][]byte{p, told} {
		for i := range answer {
			kept := copied(answer)
			row := answer[i][:cap(answer[i])]
			for j := range row {
				row[j] = 0xee
			}
			kept[i] = answer[i]
			if !sameRows(answer, kept) || !same() || !alsoSame() {
				t.Fatal("a shard lies in other memory", i)
			}
		}
		clear(answer[:cap(answer)])
	}
	if !same() || !alsoSame() {
		t.Fatal("an answer lies in what was handed in")
	}
	again, _ := parity.Repair(shards, 4)
	want := copied(again)
	for _, s := range shards {
		clear(s)
	}
	if !sameRows(again, want) {
		t.Fatal("an answer lies in what was handed in")
	}
}
