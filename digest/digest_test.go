package digest_test

import (
	"bytes"
	"crypto/sha256"
	"encoding/hex"
	"math/rand"
	"slices"
	"testing"

	"aumbry/api"
	"aumbry/digest"
)

// The signatures that the chapter lists.
var (
	_ func([]byte) [32]byte                 = digest.Sum
	_ func() *digest.Hash                   = digest.New
	_ func(*digest.Hash, []byte) api.Errno  = (*digest.Hash).Write
	_ func(*digest.Hash) [32]byte           = (*digest.Hash).Sum
	_ func(*digest.Hash) int                = (*digest.Hash).Len
	_ func(*digest.Hash) *digest.Hash       = (*digest.Hash).Fork
	_ func([]byte) uint32                   = digest.Crc
	_ func(sum uint32, p []byte) (c uint32) = digest.CrcMore
)

func text(seed int64, n int) []byte {
	p := make([]byte, n)
	rand.New(rand.NewSource(seed)).Read(p)
	return p
}

// P2.1: sums that FIPS 180-4's examples give.
func TestSumKnown(t *testing.T) {
	for s, want := range map[string]string{
		"":    "e3b0c44298fc1c149afbf4c8996fb92427ae41e4649b934ca495991b7852b855",
		"abc": "ba7816bf8f01cfea414140de5dae2223b00361a396177a9cb410ff61f20015ad",
		"abcdbcdecdefdefgefghfghighijhijkijkljklmklmnlmnomnopnopq": "248d6a61d20638b8e5c026930c3e6039a33ce45964ff2167f6ecedd419db06c1",
		string(bytes.Repeat([]byte("a"), 1000000)):                 "cdc76e5c9914fb9281a1c7e284d73e67f1809a48a497200e046d39ccc7112cd0",
	} {
		if sum := digest.Sum([]byte(s)); hex.EncodeToString(sum[:]) != want {
			t.Errorf("Sum of %d bytes: %x", len(s), sum)
		}
	}
	if digest.Sum(nil) != digest.Sum([]byte{}) {
		t.Error("nil is not the empty text")
	}
}

// P2.1: all lengths around the multiples of 64, held against the library's.
func TestSumAllLengths(t *testing.T) {
	for n := range 64*5 + 3 {
		p := text(int64(n), n)
		if digest.Sum(p) != sha256.Sum256(p) {
			t.Errorf("Sum of %d bytes", n)
		}
		for _, x := range []byte{0, 128, 255} {
			p := bytes.Repeat([]byte{x}, n)
			if digest.Sum(p) != sha256.Sum256(p) {
				t.Errorf("Sum of %d times %d", n, x)
			}
		}
	}
	for _, n := range []int{511, 512, 513, 4095, 4096, 8192, 1<<16 + 55, 1<<16 + 56, 1<<21 + 1} {
		p := text(int64(n), n)
		if digest.Sum(p) != sha256.Sum256(p) {
			t.Errorf("Sum of %d bytes", n)
		}
	}
}

// P2.2
func TestHash(t *testing.T) {
	h := digest.New()
	var all []byte
	if h.Sum() != sha256.Sum256(nil) || h.Len() != 0 {
		t.Error("a new hash has bytes")
	}
	for n := range 200 {
		p := text(int64(n), n%70)
		if e := h.Write(p); e != api.OK {
			t.Fatal(e)
		}
		all = append(all, p...)
		for range 2 { // a sum changes nothing
			if h.Sum() != sha256.Sum256(all) || h.Len() != len(all) {
				t.Fatalf("behind %d bytes: %x, %d", len(all), h.Sum(), h.Len())
			}
		}
	}
	if h.Write(nil) != api.OK || h.Write([]byte{}) != api.OK || h.Sum() != sha256.Sum256(all) || h.Len() != len(all) {
		t.Error("no bytes are not no bytes")
	}
}

// P2.2, and the rule P1: none panics.
func TestHashNilAndUnmade(t *testing.T) {
	var none *digest.Hash
	for _, p := range [][]byte{nil, {}, []byte("abc"), text(1, 64)} {
		if none.Write(p) != api.ErrNil || none.Sum() != [32]byte{} || none.Len() != 0 || none.Fork() != nil {
			t.Error("nil told something")
		}
	}
	unmade := &digest.Hash{}
	unmade.Write(text(1, 200))
	unmade.Sum()
	unmade.Len()
	unmade.Fork().Write(text(1, 200))
}

// P2.2, P4: of a hash and its fork what becomes of the one changes nothing of the other one.
func TestFork(t *testing.T) {
	for n := range 140 {
		head, tail, other := text(int64(n), n), text(1000, 77), text(2000, 130)
		for _, turned := range []bool{false, true} {
			one := digest.New()
			one.Write(head)
			two := one.Fork()
			if two == one || two.Sum() != one.Sum() || two.Len() != one.Len() {
				t.Fatalf("a fork behind %d bytes is unlike", n)
			}
			if turned {
				one, two = two, one
			}
			one.Write(tail)
			if two.Sum() != sha256.Sum256(head) || two.Len() != n {
				t.Fatalf("behind %d bytes: what one has went into the other", n)
			}
			two.Write(other)
			if one.Sum() != sha256.Sum256(slices.Concat(head, tail)) || one.Len() != n+77 {
				t.Fatalf("behind %d bytes: one changed with the other", n)
			}
			if two.Sum() != sha256.Sum256(slices.Concat(head, other)) || two.Len() != n+130 {
				t.Fatalf("behind %d bytes: a fork does not go on", n)
			}
		}
	}
}

// P2.4
func TestPiecesPlayNoPart(t *testing.T) {
	p := text(7, 300)
	for i := range len(p) + 1 {
		h := digest.New()
		h.Write(p[:i])
		h.Write(p[i:])
		if h.Sum() != sha256.Sum256(p) || h.Len() != len(p) {
			t.Fatalf("cut at %d", i)
		}
	}
	r := rand.New(rand.NewSource(8))
	for range 300 {
		p := text(r.Int63(), r.Intn(700))
		h, at := digest.New(), 0
		for at < len(p) {
			n := min(r.Intn(130), len(p)-at)
			h.Write(p[at : at+n])
			at += n
		}
		if h.Sum() != digest.Sum(p) || h.Len() != len(p) {
			t.Fatal("pieces")
		}
	}
}

// P3: what is handed in stays as it is, with the room behind it, and is not kept.
func TestNothingKept(t *testing.T) {
	room := text(9, 200)
	kept := slices.Clone(room)
	h := digest.New()
	h.Write(room[:100])
	h.Sum()
	digest.Sum(room[:119])
	digest.Crc(room[:119])
	digest.CrcMore(5, room[:119])
	if !bytes.Equal(room, kept) {
		t.Error("what was handed in is changed")
	}
	clear(room)
	sum := h.Sum()
	if sum != sha256.Sum256(kept[:100]) {
		t.Error("what was handed in is kept")
	}
	clear(sum[:])
	if h.Sum() != sha256.Sum256(kept[:100]) {
		t.Error("what was answered is kept")
	}
}

// P6: a sum hangs on nothing that other calls did.
func TestHashesApart(t *testing.T) {
	one, two := digest.New(), digest.New()
	one.Write([]byte("ab"))
	two.Write([]byte("xyz"))
	digest.Sum(text(1, 1000))
	one.Write([]byte("c"))
	if one.Sum() != sha256.Sum256([]byte("abc")) || two.Sum() != sha256.Sum256([]byte("xyz")) || two.Len() != 3 {
		t.Error("one hash changed another")
	}
}
