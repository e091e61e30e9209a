package parity_test

import (
	"bytes"
	"math/rand"

	"aumbry/api"
)

// times is a product of the field, by bits from the highest one on.
func times(a, b byte) byte {
	p := 0
	for i := 7; i >= 0; i-- {
		p <<= 1
		if p > 255 {
			p ^= 0x11d
		}
		if b>>i&1 == 1 {
			p ^= int(a)
		}
	}
	return byte(p)
}

// inverse is found by looking for it.
func inverse(a byte) byte {
	for b := range 256 {
		if times(a, byte(b)) == 1 {
			return byte(b)
		}
	}
	return 0
}

// value is a polynomial's value.
func value(p []byte, x byte) byte {
	sum, power := byte(0), byte(1)
	for _, c := range p {
		sum ^= times(c, power)
		power = times(power, x)
	}
	return sum
}

// solver tells the coefficients of polynomials by their values at some points: rows of what the powers of these make 1, one by one.
func solver(points []int) [][]byte {
	k := len(points)
	rows := make([][]byte, k)
	for i, p := range points {
		rows[i] = make([]byte, 2*k)
		power := byte(1)
		for j := range k {
			rows[i][j] = power
			power = times(power, byte(p))
		}
		rows[i][k+i] = 1
	}
	for col := range k {
		for i := col; rows[col][col] == 0; i++ {
			rows[col], rows[i] = rows[i], rows[col]
		}
		scale := inverse(rows[col][col])
		for j := range rows[col] {
			rows[col][j] = times(rows[col][j], scale)
		}
		for i := range rows {
			if factor := rows[i][col]; i != col && factor != 0 {
				for j := range rows[i] {
					rows[i][j] ^= times(factor, rows[col][j])
				}
			}
		}
	}
	for i := range rows {
		rows[i] = rows[i][k:]
	}
	return rows
}

// plainGroup is all n shards of the group that has these shards at these places, by the chapter's words: at each place in them the coefficients are found, and the values told.
func plainGroup(places []int, rows [][]byte, n int) [][]byte {
	solved := solver(places)
	group := make([][]byte, n)
	for i := range group {
		group[i] = make([]byte, len(rows[0]))
	}
	for at := range rows[0] {
		coefficients := make([]byte, len(places))
		for i, s := range solved {
			for j, row := range rows {
				coefficients[i] ^= times(s[j], row[at])
			}
		}
		for i := range group {
			group[i][at] = value(coefficients, byte(i))
		}
	}
	return group
}

// plainRepair is what Repair tells where it has no error.
func plainRepair(shards [][]byte, k int) [][]byte {
	var places []int
	var rows [][]byte
	for i, s := range shards {
		if s != nil && len(places) < k {
			places, rows = append(places, i), append(rows, s)
		}
	}
	return plainGroup(places, rows, len(shards))
}

// plainLocate is what Locate tells where Check has no error.
func plainLocate(shards [][]byte, k int) (int, api.Errno) {
	if sameRows(plainRepair(shards, k), shards) {
		return -1, api.OK
	}
	place, found := 0, 0
	for i := range shards {
		l := without(shards, i)
		if len(shards)-1 < k {
			continue
		}
		told := plainRepair(l, k)
		told[i] = shards[i]
		if sameRows(told, shards) {
			place = i
			found++
		}
	}
	if found != 1 {
		return 0, api.ErrRot
	}
	return place, api.OK
}

func sameRows(a, b [][]byte) bool {
	if len(a) != len(b) {
		return false
	}
	for i := range a {
		if !bytes.Equal(a[i], b[i]) {
			return false
		}
	}
	return true
}

// without is shards of which some are lost.
func without(shards [][]byte, lost ...int) [][]byte {
	l := append([][]byte{}, shards...)
	for _, i := range lost {
		l[i] = nil
	}
	return l
}

// copied is the same rows in new memory; nil ones stay nil.
func copied(rows [][]byte) [][]byte {
	l := make([][]byte, len(rows))
	for i, r := range rows {
		if r != nil {
			l[i] = append([]byte{}, r...)
		}
	}
	return l
}

// rows is k rows of n bytes, of which some are 0.
func rows(r *rand.Rand, k, n int) [][]byte {
	l := make([][]byte, k)
	for i := range l {
		l[i] = make([]byte, n)
		r.Read(l[i])
		for j := range l[i] {
			if r.Intn(10) == 0 {
				l[i][j] = 0
			}
		}
	}
	return l
}
