package squeeze_test

import (
	"bytes"
	"fmt"
	"math"
	"math/rand"
	"slices"
	"testing"

	"aumbry/api"
	"aumbry/squeeze"
)

// The signatures that the chapter lists.
var (
	_ func(p []byte) ([]byte, api.Errno)           = squeeze.Put
	_ func(b []byte, most int) ([]byte, api.Errno) = squeeze.Take
)

func join(parts ...[]byte) []byte { return slices.Concat(parts...) }

// rep is a byte, n times.
func rep(c byte, n int) []byte { return bytes.Repeat([]byte{c}, n) }

// count is n bytes, in which none four of them come twice.
func count(n int) []byte {
	var p []byte
	for i := 0; len(p) < n; i++ {
		p = append(p, byte(i>>7)|128, byte(i)&127)
	}
	return p[:n]
}

// brief is bytes, if they are few enough to be shown.
func brief(b []byte) string {
	if len(b) > 60 {
		return fmt.Sprintf("% x .. (%d)", b[:60], len(b))
	}
	return fmt.Sprintf("% x", b)
}

func put(t *testing.T, p []byte) []byte {
	t.Helper()
	b, e := squeeze.Put(p)
	if e != api.OK {
		t.Fatalf("Put(%s): %d", brief(p), e)
	}
	return b
}

// wantPut: it is squeezed so, and taken back.
func wantPut(t *testing.T, p, want []byte) {
	t.Helper()
	if b := put(t, p); !bytes.Equal(b, want) {
		t.Fatalf("Put(%s): %s; want %s", brief(p), brief(b), brief(want))
	}
	wantTake(t, want, len(p), p)
}

func wantTake(t *testing.T, b []byte, most int, want []byte) {
	t.Helper()
	if p, e := squeeze.Take(b, most); e != api.OK || !bytes.Equal(p, want) {
		t.Fatalf("Take(%s, %d): %s, %d; want %s", brief(b), most, brief(p), e, brief(want))
	}
}

func wantNotTaken(t *testing.T, b []byte, most int, want api.Errno) {
	t.Helper()
	if p, e := squeeze.Take(b, most); e != want || len(p) != 0 {
		t.Fatalf("Take(%s, %d): %s, %d; want %d", brief(b), most, brief(p), e, want)
	}
}

// P24.1, P24.2
func TestPut(t *testing.T) {
	for p, want := range map[string]string{
		"":                     "",
		"a":                    "\x00a",
		"aaa":                  "\x02aaa",
		"aaaa":                 "\x03aaaa",
		"aaaaa":                "\x00a\x80\x01",
		"aaaaaa":               "\x00a\x81\x01",
		"abababab":             "\x01ab\x82\x02",
		"abcabc":               "\x05abcabc",
		"abcabcd":              "\x06abcabcd",
		"abcabca":              "\x02abc\x80\x03",
		"abcdabcd":             "\x03abcd\x80\x04",
		"abcdXabc":             "\x07abcdXabc",
		"abcdXabcd":            "\x04abcdX\x80\x05",
		"abcdXabcdX":           "\x04abcdX\x81\x05",
		"abcdXabcdYabcdX":      "\x04abcdX\x80\x05\x00Y\x81\x0a",
		"abcdXabcdYabcdZ":      "\x04abcdX\x80\x05\x00Y\x80\x05\x00Z",
		"\x00\x00\x00\x00\x00": "\x00\x00\x80\x01",
	} {
		wantPut(t, []byte(p), []byte(want))
	}
	wantPut(t, nil, nil)
}

// P24.2: of like matches the nearest one; a longer one is taken, though it stands farther ahead.
func TestPutNearest(t *testing.T) {
	wantPut(t, []byte("abcd1abcd2abcd"), []byte("\x04abcd1\x80\x05\x002\x80\x05"))
	wantPut(t, []byte("abcde1abcd2abcde"), []byte("\x05abcde1\x80\x06\x002\x81\x0b"))
	// Two that are as long as may be: what stands behind plays no part.
	long := count(132)
	p := join(long, []byte("1"), long[:131], []byte("2"), long)
	wantPut(t, p, join([]byte{127}, long[:128], []byte{4}, long[128:], []byte("1"), []byte{0xff, 0x85, 0x01}, []byte{0, '2'}, []byte{0xff, 0x84, 0x01, 0, long[131]}))
}

// P24.2: what stands within a match is looked at by later ones.
func TestPutWithinMatch(t *testing.T) {
	wantPut(t, []byte("abcdefgh-abcdefgh+cdefX"), []byte("\x08abcdefgh-\x84\x09\x00+\x80\x07\x00X"))
	// Up from one place in the first match to a place behind it.
	wantPut(t, []byte("abcdef-abcdefgh+efgh"), []byte("\x06abcdef-\x82\x07\x02gh+\x80\x05"))
}

// P24.2: the match that comes first is taken, though one that begins later would be longer.
func TestPutGreedy(t *testing.T) {
	wantPut(t, []byte("bcdefgh abcd-abcdefgh"), []byte("\x0cbcdefgh abcd-\x80\x05\x80\x0e"))
}

// P24.2: matches of 131 bytes at most.
func TestPutLong(t *testing.T) {
	for n, want := range map[int]string{
		131: "\x00a\xfe\x01", 132: "\x00a\xff\x01", 133: "\x00a\xff\x01\x00a", 135: "\x00a\xff\x01\x02aaa",
		136: "\x00a\xff\x01\x80\x01", 137: "\x00a\xff\x01\x81\x01", 263: "\x00a\xff\x01\xff\x01", 264: "\x00a\xff\x01\xff\x01\x00a",
	} {
		wantPut(t, rep('a', n), []byte(want))
	}
}

// P24.2: what stands as it is, in pieces of 128.
func TestPutPlain(t *testing.T) {
	p := count(8192)
	for _, n := range []int{1, 2, 127, 128, 129, 255, 256, 257, 384, 385, 8191, 8192} {
		var want []byte
		for plain := range slices.Chunk(p[:n], 128) {
			want = join(want, []byte{byte(len(plain) - 1)}, plain)
		}
		wantPut(t, p[:n], want)
	}
	// Behind a match they are counted anew.
	for _, n := range []int{1, 127, 128, 129} {
		want := []byte("\x04abcdX\x80\x05")
		for plain := range slices.Chunk(p[:n], 128) {
			want = join(want, []byte{byte(len(plain) - 1)}, plain)
		}
		wantPut(t, join([]byte("abcdXabcd"), p[:n]), want)
	}
}

// P24.2: distances up to 4096.
func TestPutFar(t *testing.T) {
	for _, d := range []int{4, 127, 128, 129, 4094, 4095, 4096} {
		p := join(count(d), count(4))
		if b := put(t, p); !bytes.HasSuffix(b, join([]byte{0x80}, num(d))) {
			t.Errorf("%d: %s", d, brief(b[len(b)-6:]))
		}
		wantTake(t, put(t, p), len(p), p)
	}
	for _, d := range []int{4097, 4098, 5000, 8188} {
		p := join(count(d), count(4))
		if b := put(t, p); len(b) != len(p)+(len(p)+127)/128 {
			t.Errorf("%d: %d bytes", d, len(b))
		}
	}
	// A longer one that is too far gives way to a shorter one.
	p := join([]byte("abcdefgh"), count(4000), []byte("abcde"), count(2000)[1000:], []byte("abcdefgh"))
	if b := put(t, p); !bytes.HasSuffix(b, join([]byte{0x81}, num(1005), []byte("\x02fgh"))) {
		t.Errorf("% x", b[len(b)-10:])
	}
}

// P24.2
func TestPutTooMany(t *testing.T) {
	for _, n := range []int{8193, 8194, 16384, 1 << 20} {
		if b, e := squeeze.Put(make([]byte, n)); e != api.ErrLimit || len(b) != 0 {
			t.Errorf("%d: %s, %d", n, brief(b), e)
		}
	}
	wantTake(t, put(t, make([]byte, 8192)), 8192, make([]byte, 8192))
}

// P24.1, P24.2, P24.4 (B1), P24.5: any bytes, against the chapter's words.
func TestPutAny(t *testing.T) {
	r := rand.New(rand.NewSource(1))
	for i := range 600 {
		n := r.Intn(700)
		if i%100 == 0 {
			n = 8192 - r.Intn(2)
		}
		p := torn(r, n)
		if i%2 == 0 {
			p = text(r, n, 1+r.Intn(6))
		}
		b := put(t, p)
		if want := plainPut(p); !bytes.Equal(b, want) {
			t.Fatalf("Put(%x): %x; want %x", p, b, want)
		}
		wantTake(t, b, len(p), p)
		wantTake(t, b, math.MaxInt, p)
		wantShort(t, p, b)
	}
}

// wantShort: P24.5.
func wantShort(t *testing.T, p, b []byte) {
	t.Helper()
	if len(b) > len(p)+len(p)/128+1 {
		t.Fatalf("%d bytes of %s", len(b), brief(p))
	}
}

// P24.4, P24.5: all short texts of three bytes.
func TestPutAllShort(t *testing.T) {
	for n := range 10 {
		p := make([]byte, n)
		for i := range int(math.Pow(3, float64(n))) {
			for j := range p {
				p[j] = byte('a' + i%3)
				i /= 3
			}
			wantPut(t, p, plainPut(p))
			wantShort(t, p, put(t, p))
		}
	}
}

// P24.5: matches that save least, with as little as can be between them.
func TestPutNeverLong(t *testing.T) {
	p := count(2000)
	q := slices.Clone(p)
	for at := 0; len(q) < 8190; at += 5 {
		q = join(q, []byte{byte(at)}, p[at%1900:at%1900+4])
	}
	wantShort(t, q, put(t, q))
	r := rand.New(rand.NewSource(2))
	for _, n := range []int{0, 1, 127, 128, 129, 1000, 8192} {
		wantShort(t, nil, put(t, nil))
		p := text(r, n, 256)
		wantShort(t, p, put(t, p))
	}
}

// P24.1, P24.3
func TestTake(t *testing.T) {
	for b, want := range map[string]string{
		"":                                 "",
		"\x00a":                            "a",
		"\x00a\x00b":                       "ab",
		"\x01ab\x80\x02":                   "ababab",
		"\x01ab\x80\x01":                   "abbbbb",
		"\x02abc\x81\x03\x00d":             "abcabcabd",
		"\x00a\x80\x01\x80\x05\x80\x09":    "aaaaaaaaaaaaa",
		"\x03abcd\x80\x04\x80\x08":         "abcdabcdabcd",
		"\x03abcd\x80\x02\x80\x08\x00\x00": "abcdcdcdabcd\x00",
	} {
		wantTake(t, []byte(b), len(want), []byte(want))
		wantTake(t, []byte(b), math.MaxInt, []byte(want))
	}
	wantTake(t, nil, 0, nil)
	// Put tells no such distance, but Take takes it.
	p := count(8000)
	b := put(t, p)
	for _, d := range []int{4097, 5000, 8000} {
		wantTake(t, join(b, []byte{0xff}, num(d)), 8192, join(p, join(p[8000-d:], p)[:131]))
	}
	for c := range 128 {
		wantTake(t, join([]byte{byte(c)}, p[:c+1]), 200, p[:c+1])
		wantTake(t, join([]byte{0, 'a', byte(c + 128), 1}), 200, rep('a', 1+c+4))
	}
}

// P24.3
func TestTakeShort(t *testing.T) {
	p := count(128)
	for c := range 128 {
		for _, n := range []int{0, 1, c / 2, c - 1, c} {
			if n < 0 || n > c {
				continue
			}
			piece := join([]byte{byte(c)}, p[:n])
			for _, most := range []int{200, 1, 0, -1, math.MinInt} {
				wantNotTaken(t, piece, most, api.ErrShort)
			}
			wantNotTaken(t, join([]byte("\x01ab"), piece), 200, api.ErrShort)
		}
		wantNotTaken(t, []byte{byte(c + 128)}, 0, api.ErrShort)
		wantNotTaken(t, []byte{0, 'a', byte(c + 128), 0x80}, 0, api.ErrLimit)
		wantNotTaken(t, []byte{0, 'a', byte(c + 128), 0x80}, 1, api.ErrShort)
	}
	// Spare room behind the end is not read.
	room := []byte("\x02abc")
	wantNotTaken(t, room[:3], 9, api.ErrShort)
	room = []byte("\x00a\x80\x01")
	wantNotTaken(t, room[:3], 9, api.ErrShort)
}

// P24.3: octet's errors, at a distance.
func TestTakeNoNumber(t *testing.T) {
	for _, c := range []struct {
		far  []byte
		want api.Errno
	}{
		{nil, api.ErrShort}, {[]byte{0x80}, api.ErrShort}, {rep(0x80, 7), api.ErrShort},
		{[]byte{0x80, 0}, api.ErrForm}, {[]byte{0x81, 0, 7}, api.ErrForm}, {[]byte{0x81, 0x80, 0}, api.ErrForm},
		{join(rep(0x80, 7), []byte{16}), api.ErrLimit}, {rep(0xff, 8), api.ErrLimit},
	} {
		// They come ahead of what the distance would be, and of how much there would be.
		for _, most := range []int{1, 4, 5, 100, math.MaxInt} {
			wantNotTaken(t, join([]byte("\x00a\x80"), c.far), most, c.want)
			wantNotTaken(t, join([]byte("\x00a\xff"), c.far), most, c.want)
		}
		wantNotTaken(t, join([]byte{0x80}, c.far), 0, c.want)
		wantNotTaken(t, join([]byte{0x80}, c.far), -1, c.want)
		wantNotTaken(t, join([]byte("\x00a\x80"), c.far), 0, api.ErrLimit)
	}
}

// P24.3: distances that lead ahead of the beginning, or nowhere.
func TestTakeNoDistance(t *testing.T) {
	for _, most := range []int{math.MinInt, -1, 0, 3, 4, 100} {
		wantNotTaken(t, []byte{0x80, 0}, most, api.ErrArg)
		wantNotTaken(t, []byte{0x80, 1}, most, api.ErrArg)
	}
	for _, most := range []int{1, 4, 5, 100, math.MaxInt} {
		wantNotTaken(t, []byte("\x00a\x80\x00"), most, api.ErrArg)
		wantNotTaken(t, []byte("\x00a\x80\x02"), most, api.ErrArg)
		wantNotTaken(t, []byte("\x00a\xff\x02"), most, api.ErrArg)
		wantNotTaken(t, join([]byte("\x00a\xff"), rep(0xff, 7), []byte{15}), most, api.ErrArg)
	}
	wantTake(t, []byte("\x00a\x80\x01"), 5, rep('a', 5))
	wantNotTaken(t, []byte("\x00a\x80\x01\x80\x06"), 100, api.ErrArg)
	wantTake(t, []byte("\x00a\x80\x01\x80\x05"), 100, rep('a', 9))
}

// P24.3: more bytes than may be.
func TestTakeLimit(t *testing.T) {
	for _, c := range []struct {
		b string
		n int
	}{{"\x00a", 1}, {"\x02abc", 3}, {"\x00a\x80\x01", 5}, {"\x00a\x80\x01\x00b", 6}, {"\x01ab\x82\x02", 8}, {"\x00a\xff\x01", 132}} {
		for _, most := range []int{math.MinInt, -1, 0, c.n - 1} {
			wantNotTaken(t, []byte(c.b), most, api.ErrLimit)
		}
		for _, most := range []int{c.n, c.n + 1, 8192, 8193, math.MaxInt} {
			if _, e := squeeze.Take([]byte(c.b), most); e != api.OK {
				t.Errorf("%q, %d: %d", c.b, most, e)
			}
		}
	}
	wantNotTaken(t, nil, -1, api.ErrLimit)
	wantNotTaken(t, nil, math.MinInt, api.ErrLimit)
	wantTake(t, nil, 0, nil)
	// What comes behind the place where there are too many plays no part.
	wantNotTaken(t, []byte("\x02abc\x05"), 2, api.ErrLimit)
	wantNotTaken(t, []byte("\x02abc\x80\x00"), 2, api.ErrLimit)
	wantNotTaken(t, []byte("\x02abc\x05"), 3, api.ErrShort)
}

// P24.3: never more than a file has.
func TestTakeFile(t *testing.T) {
	full := put(t, make([]byte, 8192))
	last := put(t, count(8192))
	for _, most := range []int{8192, 8193, 1 << 20, math.MaxInt} {
		wantTake(t, full, most, make([]byte, 8192))
		wantTake(t, last, most, count(8192))
		wantNotTaken(t, join(full, []byte("\x00a")), most, api.ErrLimit)
		wantNotTaken(t, join(full, []byte("\x80\x01")), most, api.ErrLimit)
		wantNotTaken(t, join(last, []byte("\x00a\x05")), most, api.ErrLimit)
		wantNotTaken(t, bytes.Repeat([]byte("\x00a"), 8193), most, api.ErrLimit)
	}
	wantNotTaken(t, full, 8191, api.ErrLimit)
	wantNotTaken(t, join([]byte("\x00a"), bytes.Repeat([]byte("\xff\x01"), 1<<16)), math.MaxInt, api.ErrLimit)
}

// P24.3, P1: any bytes, against the chapter's words.
func TestTakeAny(t *testing.T) {
	r := rand.New(rand.NewSource(3))
	met := map[api.Errno]int{}
	for i := range 60000 {
		b := text(r, r.Intn(12), 256)
		if i%3 > 0 {
			b = put(t, torn(r, r.Intn(120)))
			for range r.Intn(3) {
				if len(b) > 0 {
					b[r.Intn(len(b))] = byte(r.Intn(256) >> r.Intn(8))
				}
			}
			b = b[:len(b)-min(r.Intn(3), len(b))]
		}
		most := r.Intn(200) - 2
		want, errno := plainTake(b, most)
		met[errno]++
		if errno != api.OK {
			wantNotTaken(t, b, most, errno)
		} else {
			wantTake(t, b, most, want)
		}
	}
	for _, e := range []api.Errno{api.OK, api.ErrShort, api.ErrArg, api.ErrLimit, api.ErrForm} {
		if met[e] < 20 {
			t.Error(e, met[e])
		}
	}
}

// P24.6: a beginning of the row of pieces tells a beginning.
func TestTakeBeginning(t *testing.T) {
	r := rand.New(rand.NewSource(4))
	for range 100 {
		p := torn(r, r.Intn(600))
		b := put(t, p)
		told := 0
		for at := 0; ; {
			part, e := squeeze.Take(b[:at], len(p))
			if e != api.OK || len(part) != told || !bytes.HasPrefix(p, part) {
				t.Fatalf("Take(%s): %s, %d; want %d of %s", brief(b[:at]), brief(part), e, told, brief(p))
			}
			if at == len(b) {
				break
			}
			if c := int(b[at]); c < 128 {
				at, told = at+c+2, told+c+1
			} else {
				_, n, _ := plainNum(b[at+1:])
				at, told = at+1+n, told+c-124
			}
		}
		if told != len(p) {
			t.Fatal("not all is told", told, len(p))
		}
	}
}

// P3: what is handed in stays as it is, spare room behind it too; what is told is new memory.
func TestMemory(t *testing.T) {
	for _, p := range []string{"", "a", "abcd", "abcdabcdabcdXXXXX", string(count(300))} {
		room := join([]byte(p), []byte("room"))
		b := put(t, room[:len(p)])
		kept := slices.Clone(b)
		if string(room) != p+"room" {
			t.Fatal("what is handed in is changed")
		}
		clear(room)
		if !bytes.Equal(b, kept) {
			t.Fatal("an answer lies in what was handed in")
		}
		wide := join(b, []byte("room"))
		first, _ := squeeze.Take(wide[:len(b)], 1000)
		second, _ := squeeze.Take(wide[:len(b)], 1000)
		if !bytes.Equal(wide, join(kept, []byte("room"))) {
			t.Fatal("what is handed in is changed")
		}
		clear(first[:cap(first)])
		clear(wide)
		if string(second) != p {
			t.Fatal("an answer lies in other memory")
		}
	}
}
