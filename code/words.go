package code

import "aumbry/api"

const (
	longest    = 60  // bits of a word
	costLength = 255 // no longer one counts
)

// Words is words of lengths.
func Words(lengths [256]int) ([256]string, api.Errno) {
	if !haveRoom(lengths) {
		return [256]string{}, api.ErrArg
	}
	var words [256]string
	next := 0
	for l := 1; l <= longest; l++ {
		next <<= 1
		for c, n := range lengths {
			if n == l {
				words[c] = word(next, l)
				next++
			}
		}
	}
	return words, api.OK
}

// haveRoom: are there words of these lengths, none of which begins another one?
func haveRoom(lengths [256]int) bool {
	// What is left is counted down, as the sum of all could go round.
	left := 1 << longest
	for _, l := range lengths {
		if l < 0 || l > longest {
			return false
		}
		if l == 0 {
			continue
		}
		part := 1 << (longest - l)
		if part > left {
			return false
		}
		left -= part
	}
	return true
}

// word is a number in so many bits.
func word(n, bits int) string {
	w := make([]byte, bits)
	for i := range w {
		w[i] = '0' + byte(n>>(bits-1-i)&1)
	}
	return string(w)
}

// Cost is how many bits bytes take.
func Cost(counts, lengths [256]int) int {
	sum := 0
	for c, n := range counts {
		if l := lengths[c]; !isNoCount(n) && l >= 0 && l <= costLength {
			sum += n * l
		}
	}
	return sum
}
