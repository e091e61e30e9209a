package tape

import (
	"bytes"

	"aumbry/api"
	"aumbry/digest"
	"aumbry/octet"
)

const crcBytes = 4

// Put is a block's bytes.
func Put(x api.Block) ([]byte, api.Errno) {
	if !isBlock(x) {
		return nil, api.ErrArg
	}
	b := nums(x.Lay.Size, x.Lay.Data, x.Lay.Parity, x.Total, x.Group, x.Index)
	b = append(b, x.Bytes...)
	return append(b, crcOf(b)...), api.OK
}

// Take is the block of bytes.
func Take(b []byte) (api.Block, api.Errno) {
	if len(b) < crcBytes {
		return api.Block{}, api.ErrShort
	}
	end := len(b) - crcBytes
	said, sum := b[:end:end], b[end:]
	if !bytes.Equal(sum, crcOf(said)) {
		return api.Block{}, api.ErrSum
	}
	var x api.Block
	at, e := takeNums(said, 0, &x.Lay.Size, &x.Lay.Data, &x.Lay.Parity, &x.Total, &x.Group, &x.Index)
	if e != api.OK {
		return api.Block{}, e
	}
	x.Bytes = bytes.Clone(said[at:])
	if !isBlock(x) {
		return api.Block{}, api.ErrArg
	}
	return x, api.OK
}

func isBlock(x api.Block) bool {
	f := frameOf(x)
	return f.isRight() &&
		x.Group >= 0 && x.Group < f.groups() &&
		x.Index >= 0 && x.Index < f.size(x.Group) &&
		len(x.Bytes) == f.lay.Size
}

// crcOf is the check sum behind a block's other bytes. A Crc has four bytes: there is no error.
func crcOf(b []byte) []byte {
	sum, _ := octet.Fixed(int(digest.Crc(b)), crcBytes)
	return sum
}
