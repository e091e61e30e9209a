package bloom

import (
	"iter"
	"slices"

	"aumbry/api"
	"aumbry/octet"
)

// The numbers of those words of a sum that say where its bits are: where the first one is, and how far it is from each to the next one.
const (
	startWord = iota
	stepWord
)

const wordBytes = 6

// Places is a sum's places.
func Places(s api.Sum, size, ways int) []int {
	return slices.Collect(places(s, size, ways))
}

// places tells a sum's places; none of a size or of ways that may not be.
func places(s api.Sum, size, ways int) iter.Seq[int] {
	return func(yield func(int) bool) {
		if !fits(size, ways) {
			return
		}
		start, step := word(s, startWord), word(s, stepWord)
		for i := range ways {
			// Words are below 2^48, and i is below 8: this does not go round.
			if !yield((start + i*step) % size) {
				return
			}
		}
	}
}

// word is a word of a sum. There is no error: a sum has these bytes, and their number is below MaxNum.
func word(s api.Sum, i int) int {
	n, _, _ := octet.TakeFixed(s[:], i*wordBytes, wordBytes)
	return n
}

// fits: may there be a summary of so many bits and ways?
func fits(size, ways int) bool {
	return size >= 1 && size <= api.MaxBloom && ways >= 1 && ways <= api.MaxWays
}
