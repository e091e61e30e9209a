package tape

import (
	"bytes"

	"aumbry/api"
	"aumbry/code"
	"aumbry/squeeze"
)

const (
	ways     = 4               // to pack
	mostPack = api.MaxFile + 1 // bytes that are packed in the plainest way: one names it
)

// way says bytes otherwise, or tells the bytes that were said so.
type way func(p []byte) ([]byte, api.Errno)

// packers are the ways to pack: each at the place that the first byte of what it packed names.
func packers() [ways]way {
	return [ways]way{asIs, squeeze.Put, code.Put, inTurn(squeeze.Put, code.Put)}
}

// unpackers undo the packers, each the one at its place.
func unpackers() [ways]way {
	unsqueeze, decode := ofFile(squeeze.Take), ofFile(code.Take)
	return [ways]way{asIs, unsqueeze, decode, inTurn(decode, unsqueeze)}
}

// Pack is bytes in the shortest way.
func Pack(p []byte) ([]byte, api.Errno) {
	if len(p) > api.MaxFile {
		return nil, api.ErrLimit
	}
	var best []byte
	for first, pack := range packers() {
		said, e := pack(p)
		// Squeezed bytes may be too many to be said by words: then that is no way.
		if e == api.OK && (best == nil || 1+len(said) < len(best)) {
			best = append([]byte{byte(first)}, said...)
		}
	}
	return best, api.OK
}

// Unpack is what was packed.
func Unpack(b []byte) ([]byte, api.Errno) {
	if len(b) == 0 {
		return nil, api.ErrShort
	}
	if b[0] >= ways {
		return nil, api.ErrForm
	}
	unpack := unpackers()[b[0]]
	return unpack(b[1:])
}

func asIs(p []byte) ([]byte, api.Errno) {
	if len(p) > api.MaxFile {
		return nil, api.ErrLimit
	}
	return bytes.Clone(p), api.OK
}

// inTurn is one way, and another one with what that tells.
func inTurn(first, second way) way {
	return func(p []byte) ([]byte, api.Errno) {
		said, e := first(p)
		if e != api.OK {
			return nil, e
		}
		return second(said)
	}
}

// ofFile is a way to take what is no longer than a file may be.
func ofFile(take func(b []byte, most int) ([]byte, api.Errno)) way {
	return func(b []byte) ([]byte, api.Errno) { return take(b, api.MaxFile) }
}
