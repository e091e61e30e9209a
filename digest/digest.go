// Package digest is layer 2: see shared/doc/02-digest.md.
package digest

import (
	"math/bits"

	"aumbry/api"
	"aumbry/octet"
)

const (
	blockBytes  = 64
	lengthBytes = 8 // of the length behind the last bytes
	rounds      = 64
	padMark     = 128
)

// start is the state of no blocks: of the square roots of the first 8 primes the first 32 bits of their fractions.
var start = [8]uint32{
	0x6a09e667, 0xbb67ae85, 0x3c6ef372, 0xa54ff53a, 0x510e527f, 0x9b05688c, 0x1f83d9ab, 0x5be0cd19,
}

// roundKeys are, of the cube roots of the first 64 primes, the first 32 bits of their fractions.
var roundKeys = [rounds]uint32{
	0x428a2f98, 0x71374491, 0xb5c0fbcf, 0xe9b5dba5, 0x3956c25b, 0x59f111f1, 0x923f82a4, 0xab1c5ed5,
	0xd807aa98, 0x12835b01, 0x243185be, 0x550c7dc3, 0x72be5d74, 0x80deb1fe, 0x9bdc06a7, 0xc19bf174,
	0xe49b69c1, 0xefbe4786, 0x0fc19dc6, 0x240ca1cc, 0x2de92c6f, 0x4a7484aa, 0x5cb0a9dc, 0x76f988da,
	0x983e5152, 0xa831c66d, 0xb00327c8, 0xbf597fc7, 0xc6e00bf3, 0xd5a79147, 0x06ca6351, 0x14292967,
	0x27b70a85, 0x2e1b2138, 0x4d2c6dfc, 0x53380d13, 0x650a7354, 0x766a0abb, 0x81c2c92e, 0x92722c85,
	0xa2bfe8a1, 0xa81a664b, 0xc24b8b70, 0xc76c51a3, 0xd192e819, 0xd6990624, 0xf40e3585, 0x106aa070,
	0x19a4c116, 0x1e376c08, 0x2748774c, 0x34b0bcb5, 0x391c0cb3, 0x4ed8aa4a, 0x5b9cca4f, 0x682e6ff3,
	0x748f82ee, 0x78a5636f, 0x84c87814, 0x8cc70208, 0x90befffa, 0xa4506ceb, 0xbef9a3f7, 0xc67178f2,
}

// Hash is a sum that goes on.
type Hash struct {
	state [8]uint32 // behind the blocks that are full
	block [blockBytes]byte
	n     int // all bytes; the block holds those behind the last multiple of its length
}

// New is a hash of no bytes.
func New() *Hash { return &Hash{state: start} }

// Write lays bytes behind.
func (h *Hash) Write(p []byte) api.Errno {
	if h == nil {
		return api.ErrNil
	}
	for _, x := range p {
		h.block[h.n%blockBytes] = x
		h.n++
		if h.n%blockBytes == 0 {
			h.state = mix(h.state, h.block)
		}
	}
	return api.OK
}

// Sum is the sum of what was written.
func (h *Hash) Sum() [32]byte {
	var sum [32]byte
	if h == nil {
		return sum
	}
	// The padding goes into a fork, as more may be written behind what h has.
	full := h.Fork()
	full.Write(padding(h.n))
	for i := range sum {
		sum[i] = byte(full.state[i/4] >> (24 - 8*(i%4)))
	}
	return sum
}

// Len is how many bytes were written.
func (h *Hash) Len() int {
	if h == nil {
		return 0
	}
	return h.n
}

// Fork is another one that is alike.
func (h *Hash) Fork() *Hash {
	if h == nil {
		return nil
	}
	other := *h
	return &other
}

// Sum is a text's sum.
func Sum(p []byte) [32]byte {
	h := New()
	h.Write(p)
	return h.Sum()
}

// padding is what makes n bytes whole blocks.
func padding(n int) []byte {
	zeros := blockBytes - 1 - (n%blockBytes+lengthBytes)%blockBytes
	pad := make([]byte, 1+zeros)
	pad[0] = padMark
	length, _ := octet.Fixed(8*n, lengthBytes)
	return append(pad, length...)
}

// mix is the state behind one more block.
func mix(state [8]uint32, block [blockBytes]byte) [8]uint32 {
	a, b, c, d := state[0], state[1], state[2], state[3]
	e, f, g, h := state[4], state[5], state[6], state[7]
	for t, w := range schedule(block) {
		t1 := h + turned(e, 6, 11, 25) + (e&f ^ ^e&g) + roundKeys[t] + w
		t2 := turned(a, 2, 13, 22) + (a&b ^ a&c ^ b&c)
		h, g, f, e, d, c, b, a = g, f, e, d+t1, c, b, a, t1+t2
	}
	for i, x := range [8]uint32{a, b, c, d, e, f, g, h} {
		state[i] += x
	}
	return state
}

// schedule is a block's words, one for each round.
func schedule(block [blockBytes]byte) [rounds]uint32 {
	var w [rounds]uint32
	for i, x := range block {
		w[i/4] = w[i/4]<<8 | uint32(x)
	}
	for i := range rounds - 16 {
		t := i + 16
		w[t] = shifted(w[t-2], 17, 19, 10) + w[t-7] + shifted(w[t-15], 7, 18, 3) + w[t-16]
	}
	return w
}

// turned is x turned right by i, xor by j, xor by k.
func turned(x uint32, i, j, k int) uint32 {
	return bits.RotateLeft32(x, -i) ^ bits.RotateLeft32(x, -j) ^ bits.RotateLeft32(x, -k)
}

// shifted is x turned right by i, xor by j, xor x shifted by k.
func shifted(x uint32, i, j, k int) uint32 {
	return bits.RotateLeft32(x, -i) ^ bits.RotateLeft32(x, -j) ^ x>>k
}
