package tape_test

import (
	"bytes"
	"math/rand"
	"slices"
	"strings"
	"testing"

	"aumbry/api"
	"aumbry/code"
	"aumbry/squeeze"
	"aumbry/tape"
)

// The signatures that the chapter lists.
var (
	_ func(p []byte) ([]byte, api.Errno)                     = tape.Pack
	_ func(b []byte) ([]byte, api.Errno)                     = tape.Unpack
	_ func(l []api.Entry) ([]byte, api.Errno)                = tape.Stream
	_ func(b []byte) ([]api.Entry, api.Errno)                = tape.Entries
	_ func(x api.Block) ([]byte, api.Errno)                  = tape.Put
	_ func(b []byte) (api.Block, api.Errno)                  = tape.Take
	_ func(l []api.Entry, lay api.Lay) ([][]byte, api.Errno) = tape.Write
	_ func(blocks [][]byte) ([]api.Entry, api.Errno)         = tape.Read
)

// wantPack: it is packed so, and unpacked.
func wantPack(t *testing.T, p, want []byte) {
	t.Helper()
	if b, e := tape.Pack(p); e != api.OK || !bytes.Equal(b, want) {
		t.Fatalf("Pack(%s): %s, %d; want %s", brief(p), brief(b), e, brief(want))
	}
	wantUnpack(t, want, p)
}

func wantUnpack(t *testing.T, b, want []byte) {
	t.Helper()
	if p, e := tape.Unpack(b); e != api.OK || !bytes.Equal(p, want) {
		t.Fatalf("Unpack(%s): %s, %d; want %s", brief(b), brief(p), e, brief(want))
	}
}

func wantNotUnpacked(t *testing.T, b []byte, want api.Errno) {
	t.Helper()
	if p, e := tape.Unpack(b); e != want || len(p) != 0 {
		t.Fatalf("Unpack(%s): %s, %d; want %d", brief(b), brief(p), e, want)
	}
}

// letters is bits as letters: a is 0, b is 1.
func letters(bits string) string {
	var s strings.Builder
	for i := range 8 * len(bits) {
		s.WriteByte('a' + bits[i/8]<<(i%8)>>7)
	}
	return s.String()
}

// P26.1: the chapter's example, and known bytes in each way.
func TestPackKnown(t *testing.T) {
	for p, want := range map[string]string{
		"":                             "\x00",
		"a":                            "\x00a",
		"ab":                           "\x00ab",
		"\x01":                         "\x00\x01",
		"aaaa":                         "\x00aaaa",
		"aaaaaaaa":                     "\x01\x00a\x83\x01",
		"abcdefghabcdefgh":             "\x01\x07abcdefgh\x84\x08",
		letters("\x17\x8b\x4d"):        "\x02\x18\x02a\x01b\x01\x17\x8b\x4d",
		strings.Repeat("\x00", 8192):   "\x03\x80\x01\x04\x00\x03\x01\x01\xc1\x03\xff\x02\xda" + strings.Repeat("\x49\x24\x92", 7) + "\x49\x24\xe0",
		"\x00\x00\x00\x00\x00\x00\x00": "\x01\x00\x00\x82\x01",
	} {
		wantPack(t, []byte(p), []byte(want))
	}
	wantPack(t, nil, []byte{0})
}

// P26.1: of ways that are as short the first one.
func TestPackLike(t *testing.T) {
	// 128 bytes as they are, and four that stand 128 ahead: a byte more, and one less.
	p := make([]byte, 128, 132)
	for i := range p {
		p[i] = byte(i)
	}
	p = append(p, p[:4]...)
	if b, _ := squeeze.Put(p); len(b) != len(p) {
		t.Fatal("no like ones", len(b))
	}
	wantPack(t, p, lay([]byte{0}, p))
	wantPack(t, p[:131], lay([]byte{0}, p[:131]))
	wantPack(t, append(p, 4), lay([]byte{1, 127}, p[:128], []byte{0x81, 0x80, 0x01}))

	r := rand.New(rand.NewSource(1))
	met := map[[2]int]int{}
	for i := range 1500 {
		p := text(r, r.Intn(120), 1+r.Intn(12), r.Intn(2) == 0)
		if i%2 == 0 {
			p = rows(r, 100+r.Intn(500))
		}
		l := said(p)
		for i := range l {
			for j := range i {
				if best := plainPack(p); len(l[i]) == len(l[j]) && len(best) == len(l[i]) {
					met[[2]int{j, i}]++
				}
			}
		}
		wantPack(t, p, plainPack(p))
	}
	for _, pair := range [][2]int{{0, 1}, {0, 2}, {1, 2}, {1, 3}, {2, 3}} {
		if met[pair] == 0 {
			t.Error("never as short", pair, met)
		}
	}
}

// P26.1, P26.8, B1: bytes of all kinds, against the chapter's words.
func TestPackAny(t *testing.T) {
	r := rand.New(rand.NewSource(2))
	var met [4]int
	for range 3000 {
		p := some(r)
		b := plainPack(p)
		wantPack(t, p, b)
		met[b[0]]++
		if len(b) > len(p)+1 {
			t.Fatalf("%d bytes are packed in %d", len(p), len(b))
		}
	}
	if slices.Min(met[:]) < 30 {
		t.Error("met", met)
	}
}

// P26.1, P26.8: as many bytes as there may be, and one more.
func TestPackMost(t *testing.T) {
	r := rand.New(rand.NewSource(3))
	p := noise(r, 8193)
	for _, n := range []int{8190, 8191, 8192} {
		wantPack(t, p[:n], lay([]byte{0}, p[:n]))
		wantPack(t, p[:n:n], lay([]byte{0}, p[:n]))
	}
	// Squeezed they are more than may be said by words.
	if b, _ := squeeze.Put(p[:8192]); len(b) <= 8192 {
		t.Fatal("squeezed", len(b))
	}
	for _, letters := range []int{1, 2, 3, 20, 100} {
		q := text(r, 8192, letters, letters == 20)
		wantPack(t, q, plainPack(q))
	}
	for _, l := range [][]byte{p, make([]byte, 8193), make([]byte, 8194), make([]byte, 100000)} {
		if b, e := tape.Pack(l); e != api.ErrLimit || len(b) != 0 {
			t.Errorf("Pack of %d bytes: %s, %d", len(l), brief(b), e)
		}
	}
}

// P26.1: each way is taken back, be it the shortest or not.
func TestUnpackEachWay(t *testing.T) {
	r := rand.New(rand.NewSource(4))
	for range 300 {
		p := some(r)
		for _, b := range said(p) {
			if b != nil {
				wantUnpack(t, b, p)
			}
		}
	}
	wantUnpack(t, []byte{0}, nil)
	wantUnpack(t, []byte{1}, nil)
	wantUnpack(t, []byte{2, 0, 0}, nil)
	wantUnpack(t, []byte{3, 0, 0}, nil)
}

// P26.1: no bytes, and ways that are none.
func TestUnpackNoWay(t *testing.T) {
	wantNotUnpacked(t, nil, api.ErrShort)
	wantNotUnpacked(t, []byte{}, api.ErrShort)
	wantNotUnpacked(t, []byte{0, 1}[:0], api.ErrShort)
	for c := 4; c < 256; c++ {
		for _, behind := range [][]byte{nil, {0}, {1, 0}, []byte("\x03\x02\x61\x01\x62\x01\x20"), make([]byte, 9000)} {
			wantNotUnpacked(t, lay([]byte{byte(c)}, behind), api.ErrForm)
		}
	}
}

// coded is bytes, said by words.
func coded(t *testing.T, p []byte) []byte {
	t.Helper()
	b, e := code.Put(p)
	if e != api.OK {
		t.Fatal("code.Put", e)
	}
	return b
}

// P26.1: more than a file may have, in each way.
func TestUnpackMost(t *testing.T) {
	p := make([]byte, 8193)
	for i := range p {
		p[i] = byte(i % 3)
	}
	wantUnpack(t, lay([]byte{0}, p[:8192]), p[:8192])
	wantNotUnpacked(t, lay([]byte{0}, p), api.ErrLimit)
	wantNotUnpacked(t, lay([]byte{0}, make([]byte, 20000)), api.ErrLimit)

	squeezed, _ := squeeze.Put(p[:8192])
	more := lay(squeezed, []byte{0, p[8192]})
	wantUnpack(t, lay([]byte{1}, squeezed), p[:8192])
	wantNotUnpacked(t, lay([]byte{1}, more), api.ErrLimit)
	wantUnpack(t, lay([]byte{3}, coded(t, squeezed)), p[:8192])
	wantNotUnpacked(t, lay([]byte{3}, coded(t, more)), api.ErrLimit)

	// 8192 and 8193 bytes a, of which each is a bit 0.
	wantUnpack(t, lay([]byte{2}, 8192, 1, []byte("a\x01"), make([]byte, 1024)), bytes.Repeat([]byte("a"), 8192))
	wantNotUnpacked(t, lay([]byte{2}, 8193, 1, []byte("a\x01"), make([]byte, 1025)), api.ErrLimit)
	wantNotUnpacked(t, lay([]byte{3}, 8193, 1, []byte("a\x01"), make([]byte, 1025)), api.ErrLimit)
}

// P26.1: the errors of squeeze and code.
func TestUnpackWrong(t *testing.T) {
	for b, want := range map[string]api.Errno{
		"\x01\x00":                            api.ErrShort,
		"\x01\x80":                            api.ErrShort,
		"\x01\x80\x01":                        api.ErrArg,
		"\x01\x00a\x80\x02":                   api.ErrArg,
		"\x01\x00a\x80\x81\x00":               api.ErrForm,
		"\x02":                                api.ErrShort,
		"\x02\x81\x00":                        api.ErrForm,
		"\x02\x01\x00":                        api.ErrForm,
		"\x02\x01\x01a\x00":                   api.ErrArg,
		"\x02\x03\x02a\x01b\x01":              api.ErrShort,
		"\x02\x03\x02a\x01b\x01\x21":          api.ErrForm,
		"\x03":                                api.ErrShort,
		"\x03\x01\x00":                        api.ErrForm,
		"\x03\x01\x01a\x00":                   api.ErrArg,
		"\x03\x01\x01\x05\x01":                api.ErrShort,
		"\x03" + string(sayWords("\x05")):     api.ErrShort,
		"\x03" + string(sayWords("\x80\x01")): api.ErrArg,
		"\x03" + string(sayWords("\x00a\x80\x81\x00")): api.ErrForm,
		// The words end too early, and what they say is wrong too.
		"\x03\x02\x02\x01\x01\x80\x01": api.ErrShort,
	} {
		wantNotUnpacked(t, []byte(b), want)
	}
}

// sayWords is a text, said by words.
func sayWords(s string) []byte {
	b, _ := code.Put([]byte(s))
	return b
}

// P26.1, P1: bytes of any kind, against the chapter's words.
func TestUnpackAny(t *testing.T) {
	r := rand.New(rand.NewSource(5))
	met := map[api.Errno]int{}
	for range 30000 {
		b := noise(r, r.Intn(30))
		if r.Intn(3) > 0 {
			l := said(text(r, r.Intn(100), 1+r.Intn(20), true))
			b = l[r.Intn(4)]
			for range r.Intn(4) {
				b[r.Intn(len(b))] = byte(r.Intn(256) >> r.Intn(8))
			}
			b = b[:len(b)-r.Intn(1+len(b)/4)]
		}
		if len(b) > 0 && r.Intn(3) == 0 {
			b[0] = byte(r.Intn(5))
		}
		want, wantE := plainUnpack(b)
		p, e := tape.Unpack(b)
		if e != wantE || !bytes.Equal(p, want) {
			t.Fatalf("Unpack(%s): %s, %d; want %s, %d", brief(b), brief(p), e, brief(want), wantE)
		}
		met[e]++
	}
	for _, e := range []api.Errno{api.OK, api.ErrShort, api.ErrForm, api.ErrArg, api.ErrLimit} {
		if met[e] < 20 {
			t.Error("met", met)
		}
	}
}

// P3: what is handed in stays, and is not kept; what is answered is new memory.
func TestPackMemory(t *testing.T) {
	r := rand.New(rand.NewSource(6))
	for _, p := range [][]byte{nil, {}, []byte("a"), noise(r, 300), text(r, 900, 3, false), make([]byte, 8192), []byte(strings.Repeat("some lines, ", 40))} {
		in, same := roomy(t, p, sameByte, 77)
		b, _ := tape.Pack(in)
		again, _ := tape.Pack(in)
		spoil(again)
		same()
		spoil(in)
		if !bytes.Equal(b, plainPack(p)) {
			t.Errorf("Pack(%s) lies in what was handed in, or answered", brief(p))
		}
		for _, b := range said(p) {
			in, same := roomy(t, b, sameByte, 77)
			got, _ := tape.Unpack(in)
			again, _ := tape.Unpack(in)
			spoil(again)
			same()
			spoil(in)
			if b != nil && !bytes.Equal(got, p) {
				t.Errorf("Unpack(%s) lies in what was handed in, or answered", brief(b))
			}
		}
	}
}
