package squeeze

import (
	"iter"

	"aumbry/api"
	"aumbry/octet"
)

const (
	plainMost = 128 // bytes that a piece has at most, as they are
	again     = 128 // the first byte of a piece whose bytes stood ahead, from this one on
	leastCopy = 4   // bytes that such a piece has at least
	mostCopy  = 255 - again + leastCopy
)

// piece is the bytes that come next: plain ones, as they are, or, if it has none of these, n bytes that stand far ahead.
type piece struct {
	plain  []byte
	far, n int
}

// size is how many bytes a piece tells.
func (x piece) size() int { return len(x.plain) + x.n }

func (x piece) isPlain() bool { return len(x.plain) > 0 }

// bytes is a piece as it is laid.
func (x piece) bytes() []byte {
	if x.isPlain() {
		return append([]byte{byte(len(x.plain) - 1)}, x.plain...)
	}
	// No distance within a file is above what a number may be: there is no error.
	far, _ := octet.Num(x.far)
	return append([]byte{byte(again + x.n - leastCopy)}, far...)
}

// check is what stands against a piece behind so many bytes, if there may be most in all.
func (x piece) check(ahead, most int) api.Errno {
	if !x.isPlain() && (x.far == 0 || x.far > ahead) {
		return api.ErrArg
	}
	if x.size() > most-ahead {
		return api.ErrLimit
	}
	return api.OK
}

// follow is bytes, and those of the piece behind them.
func (x piece) follow(p []byte) []byte {
	p = append(p, x.plain...)
	// Byte by byte, as the piece may reach into itself.
	for range x.n {
		p = append(p, p[len(p)-x.far])
	}
	return p
}

// laid tells the pieces of squeezed bytes, up to the first one that is none.
func laid(b []byte) iter.Seq2[piece, api.Errno] {
	return func(yield func(piece, api.Errno) bool) {
		for at := 0; at < len(b); {
			x, next, e := takePiece(b, at)
			if !yield(x, e) || e != api.OK {
				return
			}
			at = next
		}
	}
}

// takePiece is the piece at a place, and the place behind it.
func takePiece(b []byte, at int) (piece, int, api.Errno) {
	first := int(b[at])
	at++
	if first >= again {
		far, next, e := octet.TakeNum(b, at)
		if e != api.OK {
			return piece{}, 0, e
		}
		return piece{far: far, n: first - again + leastCopy}, next, api.OK
	}
	n := first + 1
	if n > len(b)-at {
		return piece{}, 0, api.ErrShort
	}
	return piece{plain: b[at : at+n : at+n]}, at + n, api.OK
}
