package digest_test

import (
	"bytes"
	"hash/crc32"
	"math/rand"
	"testing"

	"aumbry/digest"
)

// stepped is CrcMore as the document's words reckon it, bit by bit.
func stepped(sum uint32, p []byte) uint32 {
	register := ^sum
	for _, x := range p {
		register ^= uint32(x)
		for range 8 {
			out := register & 1
			register >>= 1
			if out == 1 {
				register ^= 0x82f63b78
			}
		}
	}
	return ^register
}

// P2.3
func TestCrcKnown(t *testing.T) {
	for s, want := range map[string]uint32{
		"": 0, "123456789": 0xe3069283, "a": 0xc1d04330,
		string(make([]byte, 32)):                      0x8a9136aa,
		string(bytes.Repeat([]byte{0xff}, 32)):        0x62a8ab43,
		"The quick brown fox jumps over the lazy dog": 0x22620404,
	} {
		if sum := digest.Crc([]byte(s)); sum != want {
			t.Errorf("Crc(%q): %08x", s, sum)
		}
	}
	if digest.Crc(nil) != 0 {
		t.Error("Crc of nil")
	}
}

// P2.3
func TestCrcAsTheWordsSay(t *testing.T) {
	table := crc32.MakeTable(crc32.Castagnoli)
	r := rand.New(rand.NewSource(1))
	for n := range 700 {
		p := text(int64(n), n)
		if sum := digest.Crc(p); sum != stepped(0, p) || sum != crc32.Checksum(p, table) {
			t.Errorf("Crc of %d bytes: %08x", n, sum)
		}
		for _, first := range []uint32{0, 1, 1 << 31, 0xffffffff, r.Uint32()} {
			if sum := digest.CrcMore(first, p); sum != stepped(first, p) || sum != crc32.Update(first, table, p) {
				t.Errorf("CrcMore(%08x, %d bytes): %08x", first, n, sum)
			}
		}
	}
	for x := range 256 {
		if sum := digest.Crc([]byte{byte(x)}); sum != stepped(0, []byte{byte(x)}) {
			t.Errorf("Crc of %02x: %08x", x, sum)
		}
	}
	for _, sum := range []uint32{0, 1, 0xe3069283, 0xffffffff} {
		if digest.CrcMore(sum, nil) != sum || digest.CrcMore(sum, []byte{}) != sum {
			t.Errorf("no bytes change %08x", sum)
		}
	}
}

// P2.5
func TestCrcGoesOn(t *testing.T) {
	for n := range 200 {
		p := text(int64(n), n)
		for i := range n + 1 {
			if digest.CrcMore(digest.Crc(p[:i]), p[i:]) != digest.Crc(p) {
				t.Fatalf("%d bytes, cut at %d", n, i)
			}
		}
	}
}

// apart: do the Crcs part for all texts that part from p in the bytes from at on, w of them? What Crcs part by is a sum (xor) over the bits that are turned, so they do where no bits' share is a sum of the others'.
func apart(p []byte, at, w int) bool {
	whole := digest.Crc(p)
	var by [32]uint32 // a share by its highest bit
	for bit := range 8 * w {
		q := bytes.Clone(p)
		q[at+bit/8] ^= 1 << (bit % 8)
		share := digest.Crc(q) ^ whole
		for i := 31; i >= 0; i-- {
			if share>>i&1 == 0 {
				continue
			}
			if by[i] == 0 {
				by[i] = share
				break
			}
			share ^= by[i]
		}
		if share == 0 {
			return false
		}
	}
	return true
}

// P2.6
func TestCrcPartsWhereFourBytesPart(t *testing.T) {
	for _, n := range []int{1, 2, 3, 4, 5, 8, 63, 64, 65, 128, 300} {
		p := text(int64(n), n)
		for at := range n {
			if !apart(p, at, min(4, n-at)) {
				t.Errorf("%d bytes, from %d on", n, at)
			}
		}
	}
}

// P2.6: by chance, without what apart leans on.
func TestCrcPartsByChance(t *testing.T) {
	r := rand.New(rand.NewSource(2))
	for range 100000 {
		p := text(r.Int63(), 1+r.Intn(40))
		q := bytes.Clone(p)
		at := r.Intn(len(q))
		for i := at; i < min(at+4, len(q)); i++ {
			q[i] = byte(r.Intn(256))
		}
		if !bytes.Equal(p, q) && digest.Crc(p) == digest.Crc(q) {
			t.Fatalf("% x and % x", p, q)
		}
	}
}
