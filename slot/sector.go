package slot

import (
	"slices"

	"aumbry/api"
	"aumbry/digest"
	"aumbry/octet"
)

const (
	markBytes = 8
	sizeBytes = 1
	headBytes = markBytes + sizeBytes // ahead of the text
	bodyBytes = 116                   // which the check sum guards
	sumBytes  = 4
)

// sector is a sector of a cell, as it lies on the disk. All of it is told by its mark and its text, so that it is whole, if it is like the one that these make.
type sector struct {
	body [bodyBytes]byte // the mark, the text's length, the text, and bytes 0
	sum  [sumBytes]byte
	mark [markBytes]byte // again: a sector that was torn has an elder one here
}

// entry is what a sector says; one that is not whole has the mark 0.
type entry struct {
	mark int
	text []byte
}

// parted is a sector out of its bytes.
func parted(b []byte) sector {
	var s sector
	for _, part := range [][]byte{s.body[:], s.sum[:], s.mark[:]} {
		b = b[copy(part, b):]
	}
	return s
}

// sealed is the sector of a mark and a text, both within their limits.
func sealed(mark int, text []byte) sector {
	first, _ := octet.Fixed(mark, markBytes)
	size, _ := octet.Fixed(len(text), sizeBytes)
	var s sector
	copy(s.body[:], slices.Concat(first, size, text))
	sum, _ := octet.Fixed(int(digest.Crc(s.body[:])), sumBytes)
	copy(s.sum[:], sum)
	copy(s.mark[:], first)
	return s
}

func (s sector) bytes() []byte { return slices.Concat(s.body[:], s.sum[:], s.mark[:]) }

func (s sector) says() entry {
	r := octet.Read(s.body[:])
	mark, size := r.Fixed(markBytes), r.Fixed(sizeBytes)
	// A mark above MaxNum is a fault of the reader, which tells 0 then.
	if mark < 1 || size > api.MaxSlot {
		return entry{}
	}
	text := s.body[headBytes : headBytes+size]
	if s != sealed(mark, text) {
		return entry{}
	}
	return entry{mark, slices.Clone(text)}
}
