package pack_test

import (
	"crypto/sha256"
	"encoding/binary"
	"hash/crc32"
	"math/rand"

	"aumbry/api"
)

// row is a row of a table, whatever it says.
type row struct {
	sum api.Sum
	len int
}

// image is a container by the chapter's words, part by part, so that each may be wrong alone.
type image struct {
	mark             string
	id, count, total uint64
	data             []byte
	rows             []row
	tableFlaw        uint32 // which bits of the table's check sum are turned
	headFlaw         uint32
	rest             []byte // behind the 22 bytes of the head
	end              []byte // behind the table, instead of bytes 0
	cut              int    // bytes that are left out at the end
}

func crc(b []byte) uint32 { return crc32.Checksum(b, crc32.MakeTable(crc32.Castagnoli)) }

// imageOf is the container of chunks.
func imageOf(id int, chunks ...[]byte) image {
	m := image{mark: "BIN1", id: uint64(id), count: uint64(len(chunks))}
	for _, c := range chunks {
		m.data = append(m.data, c...)
		m.rows = append(m.rows, row{sha256.Sum256(c), len(c)})
	}
	m.total = uint64(len(m.data))
	return m
}

func (m image) table() []byte {
	var b []byte
	for _, r := range m.rows {
		b = binary.BigEndian.AppendUint16(append(b, r.sum[:]...), uint16(r.len))
	}
	return b
}

// bytes is the container's bytes, up to the end of a sector, but for what is cut.
func (m image) bytes() []byte {
	b := binary.BigEndian.AppendUint32([]byte(m.mark), uint32(m.id))
	b = binary.BigEndian.AppendUint16(b, uint16(m.count))
	b = binary.BigEndian.AppendUint32(b, uint32(m.total))
	b = binary.BigEndian.AppendUint32(b, crc(m.table())^m.tableFlaw)
	b = binary.BigEndian.AppendUint32(b, crc(b)^m.headFlaw)
	b = append(b, m.rest...)
	b = append(b, make([]byte, 128-len(b))...)
	b = append(append(b, m.data...), m.table()...)
	b = append(b, m.end...)
	for len(b)%128 != 0 {
		b = append(b, 0)
	}
	return b[:len(b)-m.cut]
}

// parsed is what the chapter says of bytes, read from the end of its list of errors on: each one that applies takes the place of those behind it.
func parsed(b []byte) (api.Bin, api.Errno) {
	if len(b) < 128 {
		return api.Bin{}, api.ErrShort
	}
	id, total := int(binary.BigEndian.Uint32(b[4:])), int(binary.BigEndian.Uint32(b[10:]))
	count := int(binary.BigEndian.Uint16(b[8:]))
	table, end := 128+total, 128+total+34*count
	errno := api.OK
	bin := api.Bin{ID: id, Sectors: (end + 127) / 128}
	if end > len(b) {
		errno = api.ErrShort
	} else {
		at := 128
		for i := table; i < end; i += 34 {
			n := int(binary.BigEndian.Uint16(b[i+32:]))
			bin.Slots = append(bin.Slots, api.Slot{Sum: api.Sum(b[i:]), At: at, Len: n})
			at += n
		}
		if at != table {
			errno = api.ErrForm
		}
		for _, s := range bin.Slots {
			if s.Len == 0 || s.Len > 512 {
				errno = api.ErrArg
			}
		}
		if crc(b[table:end]) != binary.BigEndian.Uint32(b[14:]) {
			errno = api.ErrSum
		}
	}
	if id > 4095 || count > 64 {
		errno = api.ErrLimit
	}
	for _, x := range b[22:128] {
		if x != 0 {
			errno = api.ErrForm
		}
	}
	if crc(b[:18]) != binary.BigEndian.Uint32(b[18:]) {
		errno = api.ErrSum
	}
	if string(b[:4]) != "BIN1" {
		errno = api.ErrForm
	}
	if errno != api.OK {
		return api.Bin{}, errno
	}
	return bin, api.OK
}

func text(r *rand.Rand, n int) []byte {
	b := make([]byte, n)
	r.Read(b)
	return b
}

// lengths are so many numbers from 1 to most, with the least and the greatest one among them often.
func lengths(r *rand.Rand, n, most int) []int {
	l := make([]int, n)
	for i := range l {
		l[i] = []int{1, most, 1 + r.Intn(most), 1 + r.Intn(most)}[r.Intn(4)]
	}
	return l
}
