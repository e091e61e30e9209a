// Package octet is layer 1: see shared/doc/01-octet.md.
package octet

import "aumbry/api"

const (
	groupBits = 7   // bits of a number that one byte of it carries
	more      = 128 // added to a byte that another one follows
	lastGroup = 7   // no number up to MaxNum has a group behind this one
	lastMost  = api.MaxNum >> (lastGroup * groupBits)
	byteBits  = 8
	maxWidth  = 8 // bytes of a number of a fixed width
)

// Num is a number's bytes, as few as can be.
func Num(n int) ([]byte, api.Errno) {
	if n < 0 || n > api.MaxNum {
		return nil, api.ErrLimit
	}
	var b []byte
	for n >= more {
		b = append(b, byte(n%more+more))
		n >>= groupBits
	}
	return append(b, byte(n)), api.OK
}

// TakeNum is the number at a place, and the place behind it.
func TakeNum(b []byte, at int) (int, int, api.Errno) {
	if !within(b, at) {
		return 0, 0, api.ErrArg
	}
	n := 0
	for i, x := range b[at:len(b):len(b)] {
		if i == lastGroup && x > lastMost {
			return 0, 0, api.ErrLimit
		}
		n |= int(x%more) << (groupBits * i)
		if x >= more {
			continue
		}
		if x == 0 && i > 0 {
			return 0, 0, api.ErrForm
		}
		return n, at + i + 1, api.OK
	}
	return 0, 0, api.ErrShort
}

// Fixed is a number in so many bytes.
func Fixed(n, width int) ([]byte, api.Errno) {
	if !isWidth(width) {
		return nil, api.ErrArg
	}
	if n < 0 || n > api.MaxNum || n>>(byteBits*width) != 0 {
		return nil, api.ErrLimit
	}
	b := make([]byte, width)
	for i := range width {
		b[width-1-i] = byte(n >> (byteBits * i))
	}
	return b, api.OK
}

// TakeFixed is the number of so many bytes at a place, and the place behind it.
func TakeFixed(b []byte, at, width int) (int, int, api.Errno) {
	if !isWidth(width) || !within(b, at) {
		return 0, 0, api.ErrArg
	}
	if len(b)-at < width {
		return 0, 0, api.ErrShort
	}
	end := at + width
	// Eight bytes may be more than an int holds; a uint64 holds them all.
	var n uint64
	for _, x := range b[at:end:end] {
		n = n<<byteBits | uint64(x)
	}
	if n > api.MaxNum {
		return 0, 0, api.ErrLimit
	}
	return int(n), end, api.OK
}

// Text is a text behind its length.
func Text(p []byte, most int) ([]byte, api.Errno) {
	if len(p) > most {
		return nil, api.ErrLimit
	}
	b, errno := Num(len(p))
	if errno != api.OK {
		return nil, errno
	}
	return append(b, p...), api.OK
}

// TakeText is the text at a place, and the place behind it.
func TakeText(b []byte, at, most int) ([]byte, int, api.Errno) {
	n, from, errno := TakeNum(b, at)
	if errno != api.OK {
		return nil, 0, errno
	}
	if n > most {
		return nil, 0, api.ErrLimit
	}
	// Held against what is left, as a place behind a long text could go round.
	if n > len(b)-from {
		return nil, 0, api.ErrShort
	}
	end := from + n
	return fresh(b[from:end:end]), end, api.OK
}

// within: is a place in a text, or at its end?
func within(b []byte, at int) bool { return at >= 0 && at <= len(b) }

func isWidth(width int) bool { return width >= 1 && width <= maxWidth }

// fresh is a copy, as neither what is handed in nor what is kept may be answered.
func fresh(b []byte) []byte { return append([]byte(nil), b...) }
