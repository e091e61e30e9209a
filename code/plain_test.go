package code_test

import (
	"math/big"
	"math/rand"
	"strings"

	"aumbry/api"
	"aumbry/code"
)

// plainLengths is the lengths of counts that are right, by the chapter's words: all trees are gone through for the least ones, and lengths are told from the root down.
func plainLengths(counts [256]int) [256]int {
	type node struct {
		count, least int
		parts        []*node
	}
	var trees []*node
	for c, n := range counts {
		if n > 0 {
			trees = append(trees, &node{count: n, least: c})
		}
	}
	takeLeast := func() *node {
		at := 0
		for i, x := range trees {
			if x.count < trees[at].count || x.count == trees[at].count && x.least < trees[at].least {
				at = i
			}
		}
		x := trees[at]
		trees = append(trees[:at:at], trees[at+1:]...)
		return x
	}
	for len(trees) > 1 {
		a, b := takeLeast(), takeLeast()
		trees = append(trees, &node{a.count + b.count, min(a.least, b.least), []*node{a, b}})
	}
	var lengths [256]int
	var walk func(x *node, depth int)
	walk = func(x *node, depth int) {
		if x.parts == nil {
			lengths[x.least] = max(depth, 1)
		}
		for _, y := range x.parts {
			walk(y, depth+1)
		}
	}
	for _, x := range trees {
		walk(x, 0)
	}
	return lengths
}

// plainWords is the words of lengths, by the chapter's words, with numbers of any size.
func plainWords(lengths [256]int) ([256]string, api.Errno) {
	sum, one := new(big.Int), big.NewInt(1)
	for _, l := range lengths {
		if l < 0 || l > 60 {
			return [256]string{}, api.ErrArg
		}
		if l > 0 {
			sum.Add(sum, new(big.Int).Lsh(one, uint(60-l)))
		}
	}
	if sum.Cmp(new(big.Int).Lsh(one, 60)) > 0 {
		return [256]string{}, api.ErrArg
	}
	var words [256]string
	ahead := ""
	for l := 1; l <= 60; l++ {
		for c := range 256 {
			if lengths[c] != l {
				continue
			}
			if ahead == "" {
				ahead = strings.Repeat("0", l)
			} else {
				ahead = above(ahead)
				ahead += strings.Repeat("0", l-len(ahead))
			}
			words[c] = ahead
		}
	}
	return words, api.OK
}

// above is the word of the number that is one above that of a word: the 1 at its end become 0, and the 0 ahead of them becomes 1.
func above(word string) string {
	kept := strings.TrimRight(word, "1")
	return kept[:len(kept)-1] + "1" + strings.Repeat("0", len(word)-len(kept))
}

func countsOf(p []byte) [256]int {
	var counts [256]int
	for c := range counts {
		for _, x := range p {
			if int(x) == c {
				counts[c]++
			}
		}
	}
	return counts
}

// num is a number's bytes.
func num(n int) []byte {
	if n < 128 {
		return []byte{byte(n)}
	}
	return append([]byte{byte(n&127 | 128)}, num(n>>7)...)
}

// plainNum is the number that bytes begin with, and how many of them it has.
func plainNum(b []byte) (int, int, api.Errno) {
	n := 0
	for i, x := range b {
		switch {
		case i == 7 && x > 15:
			return 0, 0, api.ErrLimit
		case x == 0 && i > 0:
			return 0, 0, api.ErrForm
		case x < 128:
			return n + int(x)<<(7*i), i + 1, api.OK
		}
		n += int(x-128) << (7 * i)
	}
	return 0, 0, api.ErrShort
}

// packed is bits, eight in a byte, the last one filled up with 0.
func packed(bits string) []byte {
	var b []byte
	for len(bits) > 0 {
		n := min(len(bits), 8)
		x := byte(0)
		for _, bit := range bits[:n] + strings.Repeat("0", 8-n) {
			x = 2*x + byte(bit-'0')
		}
		b = append(b, x)
		bits = bits[n:]
	}
	return b
}

// unpacked is the bits of bytes.
func unpacked(b []byte) string {
	var bits strings.Builder
	for _, x := range b {
		for i := range 8 {
			bits.WriteByte('0' + x<<i>>7)
		}
	}
	return bits.String()
}

// plainPut is what Put tells of bytes that are not too many.
func plainPut(p []byte) []byte {
	lengths := plainLengths(countsOf(p))
	words, _ := plainWords(lengths)
	var table []byte
	for c, l := range lengths {
		if l > 0 {
			table = append(table, byte(c), byte(l))
		}
	}
	var bits strings.Builder
	for _, c := range p {
		bits.WriteString(words[c])
	}
	b := append(num(len(p)), num(len(table)/2)...)
	return append(append(b, table...), packed(bits.String())...)
}

// plainTake is what Take tells, by the chapter's words.
func plainTake(b []byte, most int) ([]byte, api.Errno) {
	size, n, e := plainNum(b)
	if e != api.OK {
		return nil, e
	}
	if size > most || size > 8192 {
		return nil, api.ErrLimit
	}
	b = b[n:]
	rows, n, e := plainNum(b)
	if e != api.OK {
		return nil, e
	}
	if size == 0 && rows != 0 || size > 0 && (rows < 1 || rows > 256) {
		return nil, api.ErrForm
	}
	b = b[n:]
	var lengths [256]int
	for i := range rows {
		switch {
		case len(b) < 2*i+2:
			return nil, api.ErrShort
		case i > 0 && b[2*i] <= b[2*i-2]:
			return nil, api.ErrForm
		case b[2*i+1] == 0:
			return nil, api.ErrArg
		}
		lengths[b[2*i]] = int(b[2*i+1])
	}
	words, e := plainWords(lengths)
	if e != api.OK {
		return nil, e
	}
	return plainSaid(unpacked(b[2*rows:]), size, words)
}

// plainSaid is what bits say, word by word.
func plainSaid(bits string, size int, words [256]string) ([]byte, api.Errno) {
	var p []byte
	for range size {
		found, begun := false, false
		for c, w := range words {
			if w != "" && strings.HasPrefix(bits, w) {
				p, bits, found = append(p, byte(c)), bits[len(w):], true
				break
			}
			begun = begun || w != "" && strings.HasPrefix(w, bits)
		}
		if !found && begun {
			return nil, api.ErrShort
		}
		if !found {
			return nil, api.ErrForm
		}
	}
	if len(bits) > 7 || strings.Contains(bits, "1") {
		return nil, api.ErrForm
	}
	return p, api.OK
}

// text is n bytes of so many letters, some of which are more frequent.
func text(r *rand.Rand, n, letters int) []byte {
	p := make([]byte, n)
	for i := range p {
		p[i] = byte(r.Intn(1 + r.Intn(letters)))
	}
	return p
}

// someCounts is counts of so many bytes.
func someCounts(r *rand.Rand, bytes, most int) [256]int {
	var counts [256]int
	for _, c := range r.Perm(256)[:bytes] {
		counts[c] = r.Intn(1 + most)
	}
	return counts
}

// someLengths is lengths for which there are words: those of counts, of which some are made longer.
func someLengths(r *rand.Rand) [256]int {
	lengths, _ := code.Lengths(someCounts(r, r.Intn(30), 1+r.Intn(50)))
	for range r.Intn(4) {
		if c := r.Intn(256); lengths[c] > 0 {
			lengths[c] += r.Intn(61 - lengths[c])
		}
	}
	return lengths
}
