package code

import "aumbry/api"

const byteBits = 8

// bitWriter puts bits behind bytes, eight in a byte, the first one the highest.
type bitWriter struct {
	bytes []byte
	room  int // bits of the last byte that are free
}

func (w *bitWriter) add(word string) {
	for i := range len(word) {
		if w.room == 0 {
			w.bytes = append(w.bytes, 0)
			w.room = byteBits
		}
		w.room--
		w.bytes[len(w.bytes)-1] |= (word[i] - '0') << w.room
	}
}

// bitReader tells bits from the highest one of the first byte on.
type bitReader struct {
	bytes []byte
	at    int
}

// next is the next bit; false, if there is none.
func (r *bitReader) next() (byte, bool) {
	if r.at/byteBits == len(r.bytes) {
		return 0, false
	}
	bit := r.bytes[r.at/byteBits] >> (byteBits - 1 - r.at%byteBits) & 1
	r.at++
	return bit, true
}

// isDone: are only bits 0 left, up to the end of the byte?
func (r *bitReader) isDone() bool {
	for r.at%byteBits != 0 {
		if bit, _ := r.next(); bit != 0 {
			return false
		}
	}
	return r.at/byteBits == len(r.bytes)
}

// branch is where words that begin alike part: by the next bit they go on at other branches (0: nowhere).
type branch struct {
	to     [2]int
	isWord bool
	says   byte
}

// branches are all words: each of them begins at the first one.
type branches []branch

func branchesOf(words [alphabet]string) branches {
	l := branches{{}}
	for c, w := range words {
		if w != "" {
			at := l.lead(w)
			l[at].isWord, l[at].says = true, byte(c)
		}
	}
	return l
}

// lead is the branch to which a word leads; those that are missing are made.
func (l *branches) lead(word string) int {
	at := 0
	for i := range len(word) {
		bit := word[i] - '0'
		if (*l)[at].to[bit] == 0 {
			(*l)[at].to[bit] = len(*l)
			*l = append(*l, branch{})
		}
		at = (*l)[at].to[bit]
	}
	return at
}

// take is what the next word says.
func (l branches) take(r *bitReader) (byte, api.Errno) {
	at := 0
	for !l[at].isWord {
		bit, more := r.next()
		if !more {
			return 0, api.ErrShort
		}
		at = l[at].to[bit]
		if at == 0 {
			return 0, api.ErrForm
		}
	}
	return l[at].says, api.OK
}
