package squeeze

import (
	"iter"
	"slices"
)

const farthest = 4096 // bytes from a match back to what it is like

// four is the bytes by which former places are found: as many as a match has at least.
type four [leastCopy]byte

// match is n bytes that stand at a place, and stood far ahead of it already.
type match struct{ at, far, n int }

// pieces tells the pieces of bytes: their matches, and what stands between these.
func pieces(p []byte) iter.Seq[piece] {
	return func(yield func(piece) bool) {
		done := 0
		for m := range matches(p) {
			if !tellPlain(p[done:m.at], yield) || !yield(piece{far: m.far, n: m.n}) {
				return
			}
			done = m.at + m.n
		}
		tellPlain(p[done:], yield)
	}
}

// tellPlain tells bytes as they are, in pieces as long as may be: is more asked for?
func tellPlain(p []byte, yield func(piece) bool) bool {
	for plain := range slices.Chunk(p, plainMost) {
		if !yield(piece{plain: plain}) {
			return false
		}
	}
	return true
}

// matches tells the matches that are taken, from the beginning of bytes on.
func matches(p []byte) iter.Seq[match] {
	return func(yield func(match) bool) {
		stood := map[four][]int{}
		next := 0
		for at := range len(p) - leastCopy + 1 {
			key := fourAt(p, at)
			// Within a match no other one is looked for, but later ones may be like what stands there.
			if at >= next {
				m := longest(p, at, stood[key])
				if m.n > 0 && !yield(m) {
					return
				}
				next = at + m.n
			}
			stood[key] = append(stood[key], at)
		}
	}
}

func fourAt(p []byte, at int) four {
	var f four
	copy(f[:], p[at:])
	return f
}

// longest is the longest match at a place with one of the former places that rise, and have its first bytes; of like ones the nearest. It has no bytes, if there is none.
func longest(p []byte, at int, former []int) match {
	most := min(mostCopy, len(p)-at)
	best := match{at: at}
	for _, from := range slices.Backward(former) {
		if at-from > farthest || best.n == most {
			break
		}
		if n := alike(p[from:], p[at:], most); n > best.n {
			best = match{at: at, far: at - from, n: n}
		}
	}
	return best
}

// alike is how many bytes, of the first most ones, both have alike.
func alike(a, b []byte, most int) int {
	for i := range most {
		if a[i] != b[i] {
			return i
		}
	}
	return most
}
