package pack

import (
	"bytes"
	"slices"

	"aumbry/api"
	"aumbry/digest"
	"aumbry/octet"
)

const (
	mark = "BIN1" // with which a container begins

	idBytes    = 4
	countBytes = 2
	totalBytes = 4
	crcBytes   = 4
	guarded    = len(mark) + idBytes + countBytes + totalBytes + crcBytes // which the head's own check sum guards
	headBytes  = guarded + crcBytes

	sumBytes = len(api.Sum{})
	lenBytes = 2
	rowBytes = sumBytes + lenBytes // of a chunk, in the table
)

// head is what a container's head says: its number, how many chunks there are, how many bytes they have together, and the table's check sum.
type head struct {
	id, count, total int
	crc              uint32
}

// Parse is what a container's bytes say.
func Parse(b []byte) (api.Bin, api.Errno) {
	h, e := takeHead(b)
	if e != api.OK {
		return api.Bin{}, e
	}
	slots, e := h.takeTable(b)
	if e != api.OK {
		return api.Bin{}, e
	}
	return api.Bin{ID: h.id, Sectors: sectorsOf(tableEnd(h.count, h.total)), Slots: slots}, api.OK
}

// Chunk is a slot's bytes, if they are its chunk's.
func Chunk(b []byte, s api.Slot) ([]byte, api.Errno) {
	if !isLength(s.Len) || s.At < 0 {
		return nil, api.ErrArg
	}
	// At is not added to: At + Len might go round.
	if s.At > len(b)-s.Len {
		return nil, api.ErrShort
	}
	lies := b[s.At : s.At+s.Len]
	if digest.Sum(lies) != s.Sum {
		return nil, api.ErrRot
	}
	return slices.Clone(lies), api.OK
}

// isLength: may a chunk have so many bytes?
func isLength(n int) bool { return n >= 1 && n <= api.MaxChunk }

// tableEnd is the place behind the table of so many chunks, with so many bytes together.
func tableEnd(count, total int) int { return api.Sector + total + count*rowBytes }

// sectorsOf is how many sectors so many bytes take.
func sectorsOf(n int) int { return (n + api.Sector - 1) / api.Sector }

// padded is b with bytes 0 up to the end of a sector.
func padded(b []byte) []byte {
	return append(b, make([]byte, sectorsOf(len(b))*api.Sector-len(b))...)
}

// fixed is a number in so many bytes, within which it is: all that a head or a table says is.
func fixed(n, width int) []byte {
	b, _ := octet.Fixed(n, width)
	return b
}

// table lays the table of chunks.
func table(slots ...api.Slot) []byte {
	var b []byte
	for i := range len(slots) {
		b = append(b, slots[i].Sum[:]...)
		b = append(b, fixed(slots[i].Len, lenBytes)...)
	}
	return b
}

// bytes is the head's sector.
func (h head) bytes() []byte {
	b := slices.Concat([]byte(mark), fixed(h.id, idBytes), fixed(h.count, countBytes), fixed(h.total, totalBytes), fixed(int(h.crc), crcBytes))
	return padded(append(b, fixed(int(digest.Crc(b)), crcBytes)...))
}

// takeHead is what the first sector of b says.
func takeHead(b []byte) (head, api.Errno) {
	if len(b) < api.Sector {
		return head{}, api.ErrShort
	}
	if !bytes.HasPrefix(b, []byte(mark)) {
		return head{}, api.ErrForm
	}
	r := octet.Read(b[len(mark):headBytes])
	h := head{id: r.Fixed(idBytes), count: r.Fixed(countBytes), total: r.Fixed(totalBytes), crc: uint32(r.Fixed(crcBytes))}
	if uint32(r.Fixed(crcBytes)) != digest.Crc(b[:guarded]) {
		return head{}, api.ErrSum
	}
	if slices.ContainsFunc(b[headBytes:api.Sector], notZero) {
		return head{}, api.ErrForm
	}
	if h.id >= api.MaxBins || h.count > api.MaxSlots {
		return head{}, api.ErrLimit
	}
	return h, api.OK
}

func notZero(x byte) bool { return x != 0 }

// takeTable is the slots of which the table in b tells, behind that head.
func (h head) takeTable(b []byte) ([]api.Slot, api.Errno) {
	// The total is what the bytes claim: it is held against what is there, ahead of being added to.
	if h.total > len(b)-tableEnd(h.count, 0) {
		return nil, api.ErrShort
	}
	end := tableEnd(h.count, h.total)
	rows := b[end-h.count*rowBytes : end]
	if digest.Crc(rows) != h.crc {
		return nil, api.ErrSum
	}
	slots := make([]api.Slot, h.count)
	at := api.Sector
	for i := range h.count {
		s := takeRow(rows[i*rowBytes:], at)
		if !isLength(s.Len) {
			return nil, api.ErrArg
		}
		slots[i] = s
		at += s.Len
	}
	if at != api.Sector+h.total {
		return nil, api.ErrForm
	}
	return slots, api.OK
}

// takeRow is the slot of the first row of rows, at that place.
func takeRow(rows []byte, at int) api.Slot {
	s := api.Slot{At: at}
	copy(s.Sum[:], rows)
	s.Len, _, _ = octet.TakeFixed(rows, sumBytes, lenBytes)
	return s
}
