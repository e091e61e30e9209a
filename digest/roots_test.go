package digest

import (
	"math/big"
	"testing"
)

// primes are the first n of them.
func primes(n int) []int {
	var l []int
next:
	for x := 2; len(l) < n; x++ {
		for _, p := range l {
			if x%p == 0 {
				continue next
			}
		}
		l = append(l, x)
	}
	return l
}

// fraction is the first 32 bits of the fraction of a prime's root of that degree: of the root of prime * 2^(32*degree), rounded down, the lowest 32.
func fraction(prime, degree int) uint32 {
	whole := new(big.Int).Lsh(big.NewInt(int64(prime)), uint(32*degree))
	root := new(big.Int)
	for bit := 40; bit >= 0; bit-- {
		root.SetBit(root, bit, 1)
		if new(big.Int).Exp(root, big.NewInt(int64(degree)), nil).Cmp(whole) > 0 {
			root.SetBit(root, bit, 0)
		}
	}
	return uint32(root.Uint64())
}

// P2.1: the tables are what the document says that they are.
func TestTablesAreRoots(t *testing.T) {
	for i, p := range primes(len(start)) {
		if start[i] != fraction(p, 2) {
			t.Errorf("the square root of %d: %08x", p, start[i])
		}
	}
	for i, p := range primes(len(roundKeys)) {
		if roundKeys[i] != fraction(p, 3) {
			t.Errorf("the cube root of %d: %08x", p, roundKeys[i])
		}
	}
}
