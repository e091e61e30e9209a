package field_test

import (
	"bytes"
	"math"
	"math/rand"
	"slices"
	"testing"

	"aumbry/api"
	"aumbry/field"
)

// The signatures that the chapter lists.
var (
	_ func(a, b byte) byte                             = field.Mul
	_ func(a byte) byte                                = field.Inv
	_ func(a, b byte) (byte, api.Errno)                = field.Div
	_ func(a byte, n int) byte                         = field.Pow
	_ func(a, b []byte) byte                           = field.Dot
	_ func(p []byte, x byte) byte                      = field.Eval
	_ func(points []byte, at byte) ([]byte, api.Errno) = field.Weights
)

// plainMul is a product by the chapter's words: that of the polynomials, and then what is left of it by a long division.
func plainMul(a, b byte) byte {
	var powers [15]int
	for i := range 8 {
		for j := range 8 {
			powers[i+j] += int(a>>i&1) * int(b>>j&1)
		}
	}
	modulus := []int{1, 0, 1, 1, 1, 0, 0, 0, 1} // 11d, from the lowest bit on
	for top := 14; top >= 8; top-- {
		for times := powers[top] % 2; times > 0; times-- {
			for i, m := range modulus {
				powers[top-8+i] += m
			}
		}
	}
	left := byte(0)
	for i := range 8 {
		left |= byte(powers[i]%2) << i
	}
	return left
}

// products is all products that Mul tells.
func products() *[256][256]byte {
	var all [256][256]byte
	for a := range all {
		for b := range all {
			all[a][b] = field.Mul(byte(a), byte(b))
		}
	}
	return &all
}

// text is n bytes, of which some are 0.
func text(r *rand.Rand, n int) []byte {
	b := make([]byte, n)
	r.Read(b)
	for i := range b {
		if r.Intn(8) == 0 {
			b[i] = 0
		}
	}
	return b
}

// points is n points, each one once.
func points(r *rand.Rand, n int) []byte {
	l := make([]byte, 0, n)
	for _, p := range r.Perm(256)[:n] {
		l = append(l, byte(p))
	}
	return l
}

// P22.1: all products.
func TestMul(t *testing.T) {
	for a := range 256 {
		for b := range 256 {
			if got, want := field.Mul(byte(a), byte(b)), plainMul(byte(a), byte(b)); got != want {
				t.Fatalf("Mul(%02x, %02x): %02x; want %02x", a, b, got, want)
			}
		}
	}
	for _, x := range [][3]byte{{2, 0x80, 0x1d}, {0x80, 2, 0x1d}, {3, 7, 9}, {0, 0, 0}, {0x53, 0, 0}, {1, 0xff, 0xff}, {0xff, 0xff, 0xe2}} {
		if got := field.Mul(x[0], x[1]); got != x[2] {
			t.Errorf("Mul(%02x, %02x): %02x; want %02x", x[0], x[1], got, x[2])
		}
	}
}

// P22.1: 0 of 0; else the only one whose product with it is 1.
func TestInv(t *testing.T) {
	if field.Inv(0) != 0 || field.Inv(1) != 1 || field.Inv(2) != 0x8e {
		t.Errorf("%02x %02x %02x", field.Inv(0), field.Inv(1), field.Inv(2))
	}
	for a := 1; a < 256; a++ {
		for b := range 256 {
			if (plainMul(byte(a), byte(b)) == 1) != (byte(b) == field.Inv(byte(a))) {
				t.Fatalf("Inv(%02x): %02x, and not %02x", a, field.Inv(byte(a)), b)
			}
		}
	}
}

// P22.1, P2: all quotients; nothing is told beside an error.
func TestDiv(t *testing.T) {
	for a := range 256 {
		if got, e := field.Div(byte(a), 0); e != api.ErrArg || got != 0 {
			t.Errorf("Div(%02x, 0): %02x, %d", a, got, e)
		}
		for b := 1; b < 256; b++ {
			got, e := field.Div(byte(a), byte(b))
			if e != api.OK || plainMul(got, byte(b)) != byte(a) {
				t.Fatalf("Div(%02x, %02x): %02x, %d", a, b, got, e)
			}
		}
	}
}

// P22.1: so many factors.
func TestPow(t *testing.T) {
	for a := range 256 {
		want := byte(1)
		for n := range 800 {
			if got := field.Pow(byte(a), n); got != want {
				t.Fatalf("Pow(%02x, %d): %02x; want %02x", a, n, got, want)
			}
			want = plainMul(want, byte(a))
		}
		for _, n := range []int{0, -1, -2, -255, -256, math.MinInt, math.MinInt + 1, math.MinInt32, -1 << 40} {
			if got := field.Pow(byte(a), n); got != 1 {
				t.Fatalf("Pow(%02x, %d): %02x", a, n, got)
			}
		}
	}
	if field.Pow(2, 9) != 0x3a || field.Pow(2, 8) != 0x1d {
		t.Errorf("%02x", field.Pow(2, 9))
	}
}

// P22.1, P1, P5: as many factors as a number can say: 255 of them are 1, of all but 0.
func TestPowOfMany(t *testing.T) {
	r := rand.New(rand.NewSource(1))
	many := []int{math.MaxInt, math.MaxInt - 1, math.MaxInt32, math.MaxInt32 + 1, 1 << 62, 1<<62 - 1, math.MaxInt / 255 * 255}
	for i := range 62 {
		many = append(many, 1<<i, 1<<i+1, r.Int()>>i)
	}
	for _, n := range many {
		for a := 1; a < 256; a++ {
			if got, want := field.Pow(byte(a), n), field.Pow(byte(a), n%255); got != want {
				t.Fatalf("Pow(%02x, %d): %02x; want %02x", a, n, got, want)
			}
		}
		if got := field.Pow(0, n); n > 0 && got != 0 {
			t.Fatalf("Pow(0, %d): %02x", n, got)
		}
	}
}

// P22.2: as far as both go.
func TestDot(t *testing.T) {
	for _, l := range [][2][]byte{{nil, nil}, {nil, {1}}, {{1}, nil}, {{}, {5, 6}}} {
		if got := field.Dot(l[0], l[1]); got != 0 {
			t.Errorf("Dot(%v, %v): %02x", l[0], l[1], got)
		}
	}
	if got := field.Dot([]byte{2, 3, 9}, []byte{0x80, 7}); got != 0x1d^9 {
		t.Errorf("%02x", got)
	}
	r := rand.New(rand.NewSource(2))
	for range 3000 {
		a, b := text(r, r.Intn(20)), text(r, r.Intn(20))
		want := byte(0)
		for i := range min(len(a), len(b)) {
			want ^= plainMul(a[i], b[i])
		}
		if got, turned := field.Dot(a, b), field.Dot(b, a); got != want || turned != want {
			t.Fatalf("Dot(%v, %v): %02x, %02x; want %02x", a, b, got, turned, want)
		}
	}
	ones := bytes.Repeat([]byte{1}, 100001)
	if got := field.Dot(ones, ones); got != 1 {
		t.Errorf("of many: %02x", got)
	}
}

// P22.2: a polynomial's value; 0 is a point as well, and its power of 0 is 1.
func TestEval(t *testing.T) {
	for x := range 256 {
		if field.Eval(nil, byte(x)) != 0 || field.Eval([]byte{}, byte(x)) != 0 || field.Eval([]byte{77}, byte(x)) != 77 || field.Eval([]byte{0, 1}, byte(x)) != byte(x) {
			t.Fatal("short ones", x)
		}
	}
	if got := field.Eval([]byte{9, 8, 7}, 0); got != 9 {
		t.Errorf("at 0: %02x", got)
	}
	if got := field.Eval([]byte{9, 8, 7}, 1); got != 9^8^7 {
		t.Errorf("at 1: %02x", got)
	}
	r := rand.New(rand.NewSource(3))
	for _, most := range []int{5, 40, 700} {
		for range 200 {
			p, x := text(r, r.Intn(most)), byte(r.Intn(256))
			want, power := byte(0), byte(1)
			for _, c := range p {
				want ^= plainMul(c, power)
				power = plainMul(power, x)
			}
			if got := field.Eval(p, x); got != want {
				t.Fatalf("Eval(%v, %02x): %02x; want %02x", p, x, got, want)
			}
		}
	}
}

// plainWeights is weights by the chapter's words.
func plainWeights(points []byte, at byte) []byte {
	var l []byte
	for i, p := range points {
		w := byte(1)
		for j, q := range points {
			if j != i {
				quotient, _ := field.Div(at^q, p^q)
				w = plainMul(w, quotient)
			}
		}
		l = append(l, w)
	}
	return l
}

// P22.3
func TestWeights(t *testing.T) {
	r := rand.New(rand.NewSource(4))
	for range 2000 {
		l, at := points(r, r.Intn(24)), byte(r.Intn(256))
		if got, e := field.Weights(l, at); e != api.OK || !bytes.Equal(got, plainWeights(l, at)) {
			t.Fatalf("Weights(%v, %d): %v, %d", l, at, got, e)
		}
	}
	for _, l := range [][]byte{nil, {}} {
		if got, e := field.Weights(l, 7); e != api.OK || len(got) != 0 {
			t.Errorf("of no points: %v, %d", got, e)
		}
	}
	for p := range 256 {
		if got, e := field.Weights([]byte{byte(p)}, 9); e != api.OK || !bytes.Equal(got, []byte{1}) {
			t.Errorf("of one point: %v, %d", got, e)
		}
	}
	if got, e := field.Weights([]byte{1, 2}, 1); e != api.OK || !bytes.Equal(got, []byte{1, 0}) {
		t.Errorf("at a point: %v, %d", got, e)
	}
	if got, e := field.Weights([]byte{0, 1}, 2); e != api.OK || !bytes.Equal(got, []byte{3, 2}) {
		t.Errorf("on a line: %v, %d", got, e)
	}
}

// P22.3: all points there are, in any order: at lies among them.
func TestWeightsOfAll(t *testing.T) {
	l := points(rand.New(rand.NewSource(5)), 256)
	for at := range 256 {
		got, e := field.Weights(l, byte(at))
		if e != api.OK || len(got) != 256 {
			t.Fatal(at, len(got), e)
		}
		for i, p := range l {
			if is := int(p) == at; is && got[i] != 1 || !is && got[i] != 0 {
				t.Fatalf("at %d the point %d counts %d", at, p, got[i])
			}
		}
	}
}

func wantNoWeights(t *testing.T, points []byte, at byte, want api.Errno) {
	t.Helper()
	if got, e := field.Weights(points, at); e != want || len(got) != 0 {
		t.Errorf("of %d points, at %d: %v, %d; want %d", len(points), at, got, e, want)
	}
}

// P22.3, P2: too many, whatever they are; one that stands there twice, wherever that is, and wherever at is.
func TestWeightsErrors(t *testing.T) {
	r := rand.New(rand.NewSource(6))
	for _, n := range []int{257, 258, 300, 1000, 1 << 20} {
		wantNoWeights(t, make([]byte, n), 0, api.ErrLimit)
		wantNoWeights(t, append(points(r, 256), make([]byte, n-256)...), 3, api.ErrLimit)
	}
	for range 500 {
		l := points(r, 2+r.Intn(20))
		from, to := r.Intn(len(l)), r.Intn(len(l))
		if from == to {
			continue
		}
		l[to] = l[from]
		for _, at := range []byte{l[from], l[0], l[len(l)-1], byte(r.Intn(256))} {
			wantNoWeights(t, l, at, api.ErrArg)
		}
	}
	wantNoWeights(t, []byte{0, 0}, 0, api.ErrArg)
	wantNoWeights(t, []byte{255, 255}, 0, api.ErrArg)
	wantNoWeights(t, make([]byte, 256), 0, api.ErrArg)
	all := points(r, 256)
	all[255] = all[0]
	wantNoWeights(t, all, 1, api.ErrArg)
}

// P22.4 (B6)
func TestLaws(t *testing.T) {
	all := products()
	for a := range 256 {
		if all[a][1] != byte(a) || all[1][a] != byte(a) || all[a][0] != 0 {
			t.Fatal("1 and 0", a)
		}
		for b := range 256 {
			ab := all[a][b]
			if ab != all[b][a] {
				t.Fatal("commutative", a, b)
			}
			if back, e := field.Div(ab, byte(b)); b != 0 && (e != api.OK || back != byte(a)) {
				t.Fatal("Div takes back Mul", a, b)
			}
			for c := range 256 {
				if all[ab][c] != all[a][all[b][c]] {
					t.Fatal("associative", a, b, c)
				}
				if all[a][b^c] != ab^all[a][c] {
					t.Fatal("distributes", a, b, c)
				}
			}
		}
	}
}

// P22.5 (B6): of a polynomial that is told by some of its values all values are told.
func TestThroughPoints(t *testing.T) {
	r := rand.New(rand.NewSource(7))
	for _, n := range []int{0, 1, 2, 3, 10, 48, 255, 256} {
		for _, coefficients := range []int{0, 1, n / 2, n - 1, n} {
			p, l := text(r, min(max(coefficients, 0), n)), points(r, n)
			values := make([]byte, 0, n)
			for _, x := range l {
				values = append(values, field.Eval(p, x))
			}
			for _, at := range text(r, 12) {
				w, e := field.Weights(l, at)
				if e != api.OK || field.Dot(values, w) != field.Eval(p, at) {
					t.Fatalf("%d points, %d coefficients, at %d: %d", n, len(p), at, e)
				}
			}
		}
	}
}

// P22.5: one coefficient more than there are points, and the value is another one, but at the points.
func TestThroughTooFewPoints(t *testing.T) {
	p, l := []byte{1, 2, 3, 4}, []byte{10, 20, 30}
	values := []byte{field.Eval(p, 10), field.Eval(p, 20), field.Eval(p, 30)}
	for at := range 256 {
		w, _ := field.Weights(l, byte(at))
		if same := field.Dot(values, w) == field.Eval(p, byte(at)); same != slices.Contains(l, byte(at)) {
			t.Fatal(at, same)
		}
	}
}

// P3: what is handed in stays as it is, and what is told is new memory.
func TestMemory(t *testing.T) {
	room := append(points(rand.New(rand.NewSource(8)), 20), 1, 2, 3, 4)
	kept := slices.Clone(room)
	l := room[:20]
	first, _ := field.Weights(l, 200)
	second, _ := field.Weights(l, 200)
	want := slices.Clone(second)
	field.Dot(l, l[:7])
	field.Eval(l, 9)
	if !bytes.Equal(room, kept) {
		t.Error("what is handed in is changed")
	}
	clear(first[:cap(first)])
	if !bytes.Equal(room, kept) || !bytes.Equal(second, want) {
		t.Error("an answer lies in other memory")
	}
	clear(room)
	if !bytes.Equal(second, want) {
		t.Error("an answer lies in what was handed in")
	}
}
