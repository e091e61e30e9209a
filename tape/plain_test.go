package tape_test

import (
	"bytes"
	"encoding/binary"
	"fmt"
	"hash/crc32"
	"math/rand"
	"slices"
	"strings"
	"testing"

	"aumbry/api"
	"aumbry/code"
	"aumbry/parity"
	"aumbry/squeeze"
)

// lay is parts, one behind the other: numbers, texts behind their lengths, and bytes as they are.
func lay(parts ...any) []byte {
	b := []byte{}
	for _, p := range parts {
		switch x := p.(type) {
		case int:
			b = binary.AppendUvarint(b, uint64(x))
		case string:
			b = append(binary.AppendUvarint(b, uint64(len(x))), x...)
		case []byte:
			b = append(b, x...)
		default:
			panic(p)
		}
	}
	return b
}

// crced is bytes, and their check sum behind them.
func crced(b []byte) []byte {
	return binary.BigEndian.AppendUint32(bytes.Clone(b), crc32.Checksum(b, crc32.MakeTable(crc32.Castagnoli)))
}

// plainNum is the number that bytes begin with, and what stands behind it.
func plainNum(b []byte) (int, []byte, api.Errno) {
	n := 0
	for i, x := range b {
		switch {
		case i == 7 && x > 15:
			return 0, nil, api.ErrLimit
		case x == 0 && i > 0:
			return 0, nil, api.ErrForm
		case x < 128:
			return n + int(x)<<(7*i), b[i+1:], api.OK
		}
		n += int(x-128) << (7 * i)
	}
	return 0, nil, api.ErrShort
}

// plainText is the text that bytes begin with, and what stands behind it.
func plainText(b []byte, most int) ([]byte, []byte, api.Errno) {
	n, b, e := plainNum(b)
	switch {
	case e != api.OK:
		return nil, nil, e
	case n > most:
		return nil, nil, api.ErrLimit
	case n > len(b):
		return nil, nil, api.ErrShort
	}
	return b[:n], b[n:], api.OK
}

// said is bytes, said in each way that there is; of one that is none nothing.
func said(p []byte) [4][]byte {
	squeezed, _ := squeeze.Put(p)
	coded, _ := code.Put(p)
	both, e := code.Put(squeezed)
	l := [4][]byte{lay([]byte{0}, p), lay([]byte{1}, squeezed), lay([]byte{2}, coded), lay([]byte{3}, both)}
	if len(squeezed) > 8192 || e != api.OK {
		l[3] = nil
	}
	return l
}

func plainPack(p []byte) []byte {
	l := said(p)
	best := l[0]
	for _, b := range l[1:] {
		if b != nil && len(b) < len(best) {
			best = b
		}
	}
	return best
}

func plainUnpack(b []byte) ([]byte, api.Errno) {
	if len(b) == 0 {
		return nil, api.ErrShort
	}
	rest := b[1:]
	switch b[0] {
	case 0:
		if len(rest) > 8192 {
			return nil, api.ErrLimit
		}
		return rest, api.OK
	case 1:
		return squeeze.Take(rest, 8192)
	case 2:
		return code.Take(rest, 8192)
	case 3:
		squeezed, e := code.Take(rest, 8192)
		if e != api.OK {
			return nil, e
		}
		return squeeze.Take(squeezed, 8192)
	}
	return nil, api.ErrForm
}

func plainRight(x api.Entry) bool {
	strange := strings.IndexFunc(x.Name, func(c rune) bool { return c < '!' || c > '~' })
	return len(x.Name) >= 1 && len(x.Name) <= 32 && strange < 0 && x.Gen >= 1 && x.Gen <= api.MaxNum && x.Time >= 0 && x.Time <= api.MaxNum
}

func plainStream(l []api.Entry) ([]byte, api.Errno) {
	if len(l) > 200 {
		return nil, api.ErrLimit
	}
	for _, x := range l {
		if !plainRight(x) {
			return nil, api.ErrArg
		}
	}
	b := lay(len(l))
	for _, x := range l {
		if len(x.Bytes) > 8192 {
			return nil, api.ErrLimit
		}
		b = append(b, lay(x.Name, x.Gen, x.Time, string(plainPack(x.Bytes)))...)
	}
	if len(b) > 32768 {
		return nil, api.ErrLimit
	}
	return b, api.OK
}

func plainEntries(b []byte) ([]api.Entry, api.Errno) {
	n, b, e := plainNum(b)
	if e != api.OK {
		return nil, e
	}
	if n > 200 {
		return nil, api.ErrLimit
	}
	var l []api.Entry
	for range n {
		var name, packed []byte
		var x api.Entry
		for _, step := range []func(){
			func() { name, b, e = plainText(b, 32) },
			func() { x.Gen, b, e = plainNum(b) },
			func() { x.Time, b, e = plainNum(b) },
			func() { packed, b, e = plainText(b, 8193) },
		} {
			if step(); e != api.OK {
				return nil, e
			}
		}
		x.Name = string(name)
		if !plainRight(x) {
			return nil, api.ErrArg
		}
		if x.Bytes, e = plainUnpack(packed); e != api.OK {
			return nil, e
		}
		l = append(l, x)
	}
	if len(b) > 0 {
		return nil, api.ErrForm
	}
	return l, api.OK
}

func plainIsLay(l api.Lay) bool {
	return 1 <= l.Size && l.Size <= 4096 && 1 <= l.Data && l.Data <= 32 && 0 <= l.Parity && l.Parity <= 16
}

// plainGroups is how many blocks of data each group has: they are counted one by one.
func plainGroups(l api.Lay, total int) []int {
	var groups []int
	for at := 0; at == 0 || at < total; at += l.Size {
		if n := len(groups); n == 0 || groups[n-1] == l.Data {
			groups = append(groups, 0)
		}
		groups[len(groups)-1]++
	}
	return groups
}

func plainCount(l api.Lay, total int) int {
	n := 0
	for _, k := range plainGroups(l, total) {
		n += k + l.Parity
	}
	return n
}

func plainIsBlock(x api.Block) bool {
	if !plainIsLay(x.Lay) || x.Total < 1 || x.Total > 32768 || plainCount(x.Lay, x.Total) > 512 {
		return false
	}
	groups := plainGroups(x.Lay, x.Total)
	if x.Group < 0 || x.Group >= len(groups) || x.Index < 0 || x.Index >= groups[x.Group]+x.Lay.Parity {
		return false
	}
	return len(x.Bytes) == x.Lay.Size
}

// laid is a block's bytes, be it right or not.
func laid(x api.Block) []byte {
	return crced(lay(x.Lay.Size, x.Lay.Data, x.Lay.Parity, x.Total, x.Group, x.Index, x.Bytes))
}

func plainTake(b []byte) (api.Block, api.Errno) {
	if len(b) < 4 {
		return api.Block{}, api.ErrShort
	}
	rest := b[:len(b)-4]
	if !bytes.Equal(crced(rest), b) {
		return api.Block{}, api.ErrSum
	}
	var n [6]int
	var e api.Errno
	for i := range n {
		if n[i], rest, e = plainNum(rest); e != api.OK {
			return api.Block{}, e
		}
	}
	x := api.Block{Lay: api.Lay{Size: n[0], Data: n[1], Parity: n[2]}, Total: n[3], Group: n[4], Index: n[5], Bytes: rest}
	if !plainIsBlock(x) {
		return api.Block{}, api.ErrArg
	}
	return x, api.OK
}

// plainBlocks is the blocks of a stream.
func plainBlocks(stream []byte, l api.Lay) []api.Block {
	var rows [][]byte
	for at := 0; at < len(stream); at += l.Size {
		row := make([]byte, l.Size)
		copy(row, stream[at:])
		rows = append(rows, row)
	}
	var blocks []api.Block
	for g, k := range plainGroups(l, len(stream)) {
		more, _ := parity.Encode(rows[:k], l.Parity)
		for i, row := range slices.Concat(rows[:k], more) {
			blocks = append(blocks, api.Block{Lay: l, Total: len(stream), Group: g, Index: i, Bytes: row})
		}
		rows = rows[k:]
	}
	return blocks
}

func plainWrite(l []api.Entry, y api.Lay) ([][]byte, api.Errno) {
	if !plainIsLay(y) {
		return nil, api.ErrArg
	}
	stream, e := plainStream(l)
	if e != api.OK {
		return nil, e
	}
	if plainCount(y, len(stream)) > 512 {
		return nil, api.ErrLimit
	}
	var blocks [][]byte
	for _, x := range plainBlocks(stream, y) {
		blocks = append(blocks, laid(x))
	}
	return blocks, api.OK
}

func plainRead(blocks [][]byte) ([]api.Entry, api.Errno) {
	type place struct{ group, index int }
	at := map[place][]byte{}
	var first api.Block
	strange := false
	for i, b := range blocks {
		x, e := plainTake(b)
		if i >= 2048 || e != api.OK {
			continue
		}
		if len(at) == 0 {
			first = x
		}
		strange = strange || x.Lay != first.Lay || x.Total != first.Total
		if p := (place{x.Group, x.Index}); at[p] == nil {
			at[p] = x.Bytes
		}
	}
	if len(at) == 0 {
		return nil, api.ErrShort
	}
	if strange {
		return nil, api.ErrForm
	}
	var stream []byte
	for g, k := range plainGroups(first.Lay, first.Total) {
		shards := make([][]byte, k+first.Lay.Parity)
		left := 0
		for i := range shards {
			if shards[i] = at[place{g, i}]; shards[i] != nil {
				left++
			}
		}
		if left < k {
			return nil, api.ErrShort
		}
		whole, _ := parity.Repair(shards, k)
		stream = append(stream, bytes.Join(whole[:k], nil)...)
	}
	return plainEntries(stream[:first.Total])
}

func sameEntry(a, b api.Entry) bool {
	return a.Name == b.Name && a.Gen == b.Gen && a.Time == b.Time && bytes.Equal(a.Bytes, b.Bytes)
}

func sameEntries(a, b []api.Entry) bool { return slices.EqualFunc(a, b, sameEntry) }

func sameBlock(a, b api.Block) bool {
	return a.Lay == b.Lay && a.Total == b.Total && a.Group == b.Group && a.Index == b.Index && bytes.Equal(a.Bytes, b.Bytes)
}

func sameRows(a, b [][]byte) bool { return slices.EqualFunc(a, b, bytes.Equal) }

// brief is bytes, if they are few enough to be shown.
func brief(b []byte) string {
	if len(b) > 60 {
		return fmt.Sprintf("% x .. (%d)", b[:60], len(b))
	}
	return fmt.Sprintf("% x", b)
}

// noise is n bytes that can't be said shortly.
func noise(r *rand.Rand, n int) []byte {
	p := make([]byte, n)
	r.Read(p)
	return p
}

// text is n bytes of so many letters, of which pieces come again if it is torn.
func text(r *rand.Rand, n, letters int, torn bool) []byte {
	p := make([]byte, 0, n)
	for len(p) < n {
		if torn && len(p) > 10 && r.Intn(4) == 0 {
			from := r.Intn(len(p) - 5)
			p = append(p, p[from:from+min(len(p)-from, 5+r.Intn(60), n-len(p))]...)
			continue
		}
		p = append(p, byte(r.Intn(1+r.Intn(letters))))
	}
	return p
}

// rows is n bytes at most, in lines that begin alike, and then have digits: they are squeezed, and then said by words.
func rows(r *rand.Rand, n int) []byte {
	alike := text(r, 8+r.Intn(20), 256, false)
	digits := 1 + r.Intn(8)
	var p []byte
	for len(p) < n {
		p = append(p, alike...)
		for range digits {
			p = append(p, byte('0'+r.Intn(1+r.Intn(10))))
		}
	}
	return p[:n]
}

// some is bytes of any kind, most of them few.
func some(r *rand.Rand) []byte {
	n := r.Intn(1 + r.Intn(400))
	if r.Intn(20) == 0 {
		n = r.Intn(5000)
	}
	if r.Intn(4) == 0 {
		return rows(r, 3*n/2)
	}
	return text(r, n, 1+r.Intn(256), r.Intn(2) == 0)
}

func someName(r *rand.Rand) string {
	b := make([]byte, 1+r.Intn(32))
	for i := range b {
		b[i] = byte(33 + r.Intn(94))
	}
	return string(b)
}

func someEntries(r *rand.Rand, n int) []api.Entry {
	l := make([]api.Entry, n)
	for i := range l {
		l[i] = api.Entry{Name: someName(r), Gen: 1 + r.Intn(1<<r.Intn(53)), Time: r.Intn(1 << r.Intn(54)), Bytes: some(r)}
	}
	return l
}

// someLay is a layout by which a stream of so many bytes has not too many blocks.
func someLay(r *rand.Rand, total int) api.Lay {
	for {
		l := api.Lay{Size: 1 + r.Intn(1<<r.Intn(13)), Data: 1 + r.Intn(1<<r.Intn(6)), Parity: r.Intn(1 + r.Intn(17))}
		if plainCount(l, total) <= 512 {
			return l
		}
	}
}

// roomy is a row with spare room behind its end, and a call that fails the test unless all of that is still as it was.
func roomy[T any](t *testing.T, l []T, same func(a, b T) bool, spare T) ([]T, func()) {
	t.Helper()
	long := append(slices.Clone(l), spare, spare, spare)
	was := slices.Clone(long)
	return long[:len(l)], func() {
		t.Helper()
		if !slices.EqualFunc(long, was, same) {
			t.Error("what was handed in is changed")
		}
	}
}

func sameByte(a, b byte) bool { return a == b }

// spoil changes all bytes of rows, and those in the spare room behind them.
func spoil(rows ...[]byte) {
	for _, b := range rows {
		b = b[:cap(b)]
		for i := range b {
			b[i] ^= 0xff
		}
	}
}
