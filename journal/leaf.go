package journal

import (
	"bytes"
	"iter"
	"slices"

	"aumbry/api"
	"aumbry/digest"
	"aumbry/octet"
)

const (
	epochBytes  = 6
	numberBytes = 2
	kindBytes   = 1
	sizeBytes   = 1
	headBytes   = epochBytes + numberBytes + kindBytes + sizeBytes // ahead of the text
	bodyBytes   = 118                                              // which the check sum guards
	textBytes   = bodyBytes - headBytes                            // of a record, in one leaf
	sumBytes    = 4
)

// The kinds of leaves.
const (
	noKind = iota
	whole  // a record of its own
	first  // of the leaves of a record
	middle
	last
)

// leaf is what a sector of an area says.
type leaf struct {
	epoch, number, kind int
	text                []byte
}

// bytes is a leaf's sector.
func (l leaf) bytes() []byte {
	epoch := fixed(l.epoch, epochBytes)
	body := make([]byte, bodyBytes)
	copy(body, slices.Concat(epoch, fixed(l.number, numberBytes), fixed(l.kind, kindBytes), fixed(len(l.text), sizeBytes), l.text))
	// The epoch stands at both ends: a sector that was torn has an elder one behind.
	return slices.Concat(body, fixed(int(digest.Crc(body)), sumBytes), epoch)
}

// fixed is a number in so many bytes, within which it is: all that a leaf says is.
func fixed(n, width int) []byte {
	b, _ := octet.Fixed(n, width)
	return b
}

// parsed is what a sector says, and: is it a leaf? All of a leaf is told by its head and its text, so that it is one, if it is like the one that these make.
func parsed(sector []byte) (leaf, bool) {
	r := octet.Read(sector)
	l := leaf{epoch: r.Fixed(epochBytes), number: r.Fixed(numberBytes), kind: r.Fixed(kindBytes)}
	size := r.Fixed(sizeBytes)
	if l.kind == noKind || l.kind > last || size < 1 || size > textBytes {
		return leaf{}, false
	}
	l.text = sector[headBytes : headBytes+size]
	return l, bytes.Equal(sector, l.bytes())
}

// Takes is how many leaves a record takes.
func Takes(n int) int {
	if n < 1 {
		return 0
	}
	// Not n + textBytes - 1, which might go round.
	return (n-1)/textBytes + 1
}

// leaves tells the leaves of records, none of which is empty, by their numbers, from that one on.
func leaves(epoch, number int, recs [][]byte) iter.Seq2[int, leaf] {
	return func(yield func(int, leaf) bool) {
		next := number
		for _, rec := range recs {
			most := Takes(len(rec)) - 1
			for i := range most + 1 {
				text := rec[i*textBytes : min((i+1)*textBytes, len(rec))]
				if !yield(next, leaf{epoch, next, kindOf(i, most), text}) {
					return
				}
				next++
			}
		}
	}
}

// kindOf is the kind of a record's i-th leaf, where the last one is the most-th.
func kindOf(i, most int) int {
	switch {
	case most == 0:
		return whole
	case i == 0:
		return first
	case i == most:
		return last
	}
	return middle
}

// gathered is the records that leaves are, one behind the other, and the number behind the last one. From a leaf on that goes on with no record, or breaks one off, or makes it too long, there are none.
func gathered(told iter.Seq2[int, leaf]) ([][]byte, int) {
	var recs [][]byte
	var rec []byte // what the leaves of the record under way hold
	end := 0
	for number, l := range told {
		begins, ends := l.kind == whole || l.kind == first, l.kind == whole || l.kind == last
		if begins != (len(rec) == 0) || len(rec)+len(l.text) > api.MaxRec {
			break
		}
		rec = append(rec, l.text...)
		if ends {
			recs = append(recs, rec)
			rec, end = nil, number+1
		}
	}
	return recs, end
}
