package bloom_test

import (
	"math"
	"math/big"
	"math/rand"
	"slices"
	"testing"

	"aumbry/api"
	"aumbry/bloom"
)

// wrongSizes and wrongWays are numbers of bits, and of ways, that may not be.
var (
	wrongSizes = []int{0, -1, -8, api.MaxBloom + 1, 1 << 32, math.MaxInt, math.MinInt}
	wrongWays  = []int{0, -1, api.MaxWays + 1, 1 << 32, math.MaxInt, math.MinInt}
)

// sizes are numbers of bits that may be, those around a word's among them.
var sizes = []int{1, 2, 3, 7, 8, 63, 64, 65, 100, 127, 128, 129, 1000, 4096, api.MaxBloom - 1, api.MaxBloom}

func wantPlaces(t *testing.T, s api.Sum, size, ways int, want ...int) {
	t.Helper()
	if got := bloom.Places(s, size, ways); !slices.Equal(got, want) {
		t.Errorf("Places(%x, %d, %d): %v; want %v", s, size, ways, got, want)
	}
}

// P8.1, and the chapter's example.
func TestPlaces(t *testing.T) {
	wantPlaces(t, api.Sum{5: 5, 11: 3}, 8, 3, 5, 0, 3)
	wantPlaces(t, api.Sum{5: 5, 11: 3}, 8, 1, 5)
	wantPlaces(t, api.Sum{5: 5, 11: 3}, 8, 8, 5, 0, 3, 6, 1, 4, 7, 2)
	wantPlaces(t, api.Sum{5: 5, 11: 3}, 1, 4, 0, 0, 0, 0)
	// A step of 0, or of a multiple of the bits: the same place, as often as there are ways.
	wantPlaces(t, api.Sum{5: 5}, 8, 3, 5, 5, 5)
	wantPlaces(t, api.Sum{5: 5, 11: 16}, 8, 3, 5, 5, 5)
	wantPlaces(t, api.Sum{}, api.MaxBloom, 2, 0, 0)
	// The highest byte first, six of each.
	wantPlaces(t, api.Sum{4: 1, 5: 2, 10: 3, 11: 4}, api.MaxBloom, 3, 0x0102, 0x0406, 0x070a)
	wantPlaces(t, api.Sum{3: 1, 9: 1}, 1000, 2, 65536%1000, 2*65536%1000)
	wantPlaces(t, api.Sum{0: 1, 6: 1}, 65535, 2, 256, 512)
	// 2^48 - 1 both: up to 8 times that.
	most := api.Sum{255, 255, 255, 255, 255, 255, 255, 255, 255, 255, 255, 255}
	wantPlaces(t, most, api.MaxBloom, 8, 65535, 65534, 65533, 65532, 65531, 65530, 65529, 65528)
	wantPlaces(t, most, 10, 8, 5, 0, 5, 0, 5, 0, 5, 0)
}

// P8.1: bytes behind the first twelve play no part, those ahead do.
func TestPlacesByTwelveBytes(t *testing.T) {
	for i := range len(api.Sum{}) {
		s := api.Sum{5: 5, 11: 3}
		s[i] ^= 1
		same := slices.Equal(bloom.Places(s, 65521, 3), []int{5, 8, 11})
		if same != (i > 11) {
			t.Errorf("with another byte %d: the same places: %v", i, same)
		}
	}
}

// P8.1: of any sum, at each number of bits and of ways, by numbers of any length.
func TestPlacesAny(t *testing.T) {
	r := rand.New(rand.NewSource(1))
	for _, size := range sizes {
		for ways := 1; ways <= api.MaxWays; ways++ {
			for range 20 {
				var s api.Sum
				r.Read(s[:])
				at, step := new(big.Int).SetBytes(s[:6]), new(big.Int).SetBytes(s[6:12])
				var want []int
				for range ways {
					want = append(want, int(new(big.Int).Mod(at, big.NewInt(int64(size))).Int64()))
					at.Add(at, step)
				}
				wantPlaces(t, s, size, ways, want...)
			}
		}
	}
}

// P8.1: wrong numbers: none, and no summary.
func TestWrongNumbers(t *testing.T) {
	want := func(size, ways int) {
		t.Helper()
		if l := bloom.Places(api.Sum{5: 5, 11: 3}, size, ways); len(l) != 0 {
			t.Errorf("Places of %d bits, %d ways: %v", size, ways, l)
		}
		if f, e := bloom.New(size, ways); f != nil || e != api.ErrArg {
			t.Errorf("New(%d, %d): %v, %d", size, ways, f, e)
		}
	}
	for _, size := range wrongSizes {
		want(size, 1)
		want(size, api.MaxWays)
		for _, ways := range wrongWays {
			want(size, ways)
		}
	}
	for _, ways := range wrongWays {
		want(1, ways)
		want(api.MaxBloom, ways)
	}
}

// P3: places are new memory each time.
func TestPlacesMemory(t *testing.T) {
	s := api.Sum{5: 5, 11: 3}
	l := bloom.Places(s, 8, 3)
	clear(l[:cap(l)])
	wantPlaces(t, s, 8, 3, 5, 0, 3)
}
