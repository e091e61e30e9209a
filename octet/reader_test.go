package octet_test

import (
	"bytes"
	"math"
	"math/rand"
	"testing"

	"aumbry/api"
	"aumbry/octet"
)

// The signatures that the chapter lists.
var (
	_ func(*octet.Reader) int         = (*octet.Reader).Num
	_ func(*octet.Reader, int) int    = (*octet.Reader).Fixed
	_ func(*octet.Reader, int) []byte = (*octet.Reader).Text
	_ func(*octet.Reader) api.Errno   = (*octet.Reader).End
	_ func(*octet.Reader) int         = (*octet.Reader).At
)

func wantReader(t *testing.T, r *octet.Reader, at int, end api.Errno) {
	t.Helper()
	if r.At() != at || r.End() != end {
		t.Errorf("a reader is at %d, with %d; want %d, %d", r.At(), r.End(), at, end)
	}
}

// P1.4
func TestReader(t *testing.T) {
	r := octet.Read([]byte("\xac\x02\x01\x00\x03abc\x00\x07"))
	wantReader(t, r, 0, api.ErrForm)
	if n := r.Num(); n != 300 {
		t.Error(n)
	}
	wantReader(t, r, 2, api.ErrForm)
	if n := r.Fixed(2); n != 256 {
		t.Error(n)
	}
	wantReader(t, r, 4, api.ErrForm)
	if p := r.Text(3); string(p) != "abc" {
		t.Error(p)
	}
	wantReader(t, r, 8, api.ErrForm)
	if p := r.Text(0); len(p) != 0 {
		t.Error(p)
	}
	wantReader(t, r, 9, api.ErrForm)
	if n := r.Num(); n != 7 {
		t.Error(n)
	}
	wantReader(t, r, 10, api.OK)
	wantReader(t, r, 10, api.OK)
}

// P1.4
func TestReaderOfNothing(t *testing.T) {
	for _, b := range [][]byte{nil, {}} {
		wantReader(t, octet.Read(b), 0, api.OK)
		r := octet.Read(b)
		if r.Num() != 0 {
			t.Error("a number of nothing")
		}
		wantReader(t, r, 0, api.ErrShort)
	}
}

// P1.4: a fault is the first one; behind it nothing is told, and the reader stays.
func TestReaderFaults(t *testing.T) {
	num := func(r *octet.Reader) bool { return r.Num() == 0 }
	fixed := func(width int) func(*octet.Reader) bool {
		return func(r *octet.Reader) bool { return r.Fixed(width) == 0 }
	}
	text := func(most int) func(*octet.Reader) bool {
		return func(r *octet.Reader) bool { return len(r.Text(most)) == 0 }
	}
	for i, c := range []struct {
		rest  string
		fails func(*octet.Reader) bool
		fault api.Errno
	}{
		{"", num, api.ErrShort}, {"\x80", num, api.ErrShort}, {"\x80\x00", num, api.ErrForm}, {"\xff\xff\xff\xff\xff\xff\xff\x10", num, api.ErrLimit},
		{"\x07", fixed(0), api.ErrArg}, {"\x07", fixed(9), api.ErrArg}, {"", fixed(-1), api.ErrArg}, {"\x07", fixed(math.MaxInt), api.ErrArg},
		{"\x07", fixed(2), api.ErrShort}, {"", fixed(1), api.ErrShort}, {"\x20\x00\x00\x00\x00\x00\x00", fixed(7), api.ErrLimit},
		{"", text(9), api.ErrShort}, {"\x02a", text(9), api.ErrShort}, {"\x01a", text(0), api.ErrLimit}, {"\x00", text(-1), api.ErrLimit}, {"\x81\x00", text(9), api.ErrForm},
	} {
		r := octet.Read([]byte("\x05" + c.rest))
		if r.Num() != 5 || !c.fails(r) {
			t.Errorf("case %d: told beside a fault", i)
		}
		wantReader(t, r, 1, c.fault)
		for _, later := range []func(*octet.Reader) bool{num, fixed(1), fixed(0), text(9), text(-1)} {
			if !later(r) {
				t.Errorf("case %d: told behind a fault", i)
			}
			wantReader(t, r, 1, c.fault)
		}
	}
}

// P1.4, and the rule P1: none panics.
func TestReaderNilAndUnmade(t *testing.T) {
	var none *octet.Reader
	for range 2 {
		if none.Num() != 0 || none.Fixed(1) != 0 || none.Fixed(-1) != 0 || none.Text(9) != nil || none.At() != 0 || none.End() != api.ErrNil {
			t.Error("nil told something")
		}
	}
	unmade := &octet.Reader{}
	unmade.Num()
	unmade.Fixed(3)
	unmade.Text(math.MaxInt)
	unmade.End()
	unmade.At()
}

// P1.4: any calls at any bytes tell what the functions tell from there.
func TestReaderTellsWhatIsTaken(t *testing.T) {
	r := rand.New(rand.NewSource(4))
	for range 20000 {
		b := make([]byte, r.Intn(30))
		for i := range b {
			b[i] = byte(r.Intn(6))
			if r.Intn(6) == 0 {
				b[i] = byte(r.Intn(256))
			}
		}
		reader, at, fault := octet.Read(b), 0, api.OK
		for range 12 {
			width, most, what := r.Intn(10), r.Intn(8)-1, r.Intn(3)
			n, p, next, errno := 0, []byte(nil), 0, api.OK
			gotN, gotP := 0, []byte(nil)
			switch what {
			case 0:
				n, next, errno = octet.TakeNum(b, at)
				gotN = reader.Num()
			case 1:
				n, next, errno = octet.TakeFixed(b, at, width)
				gotN = reader.Fixed(width)
			case 2:
				p, next, errno = octet.TakeText(b, at, most)
				gotP = reader.Text(most)
			}
			if fault == api.OK {
				fault = errno
			}
			if fault != api.OK {
				n, p, next = 0, nil, at
			}
			at = next
			end := fault
			if fault == api.OK && at < len(b) {
				end = api.ErrForm
			}
			if gotN != n || !bytes.Equal(gotP, p) || reader.At() != at || reader.End() != end {
				t.Fatalf("% x, at %d: %d, % x, %d, %d", b, at, gotN, gotP, reader.At(), reader.End())
			}
		}
	}
}

// P3: what is handed in is not kept, and the room behind it is not read.
func TestReaderKeepsItsOwnBytes(t *testing.T) {
	b := []byte("\x05\x03abc\x09\x09")
	r := octet.Read(b[:5])
	for i := range b {
		b[i] = 0xee
	}
	if r.Num() != 5 || string(r.Text(3)) != "abc" {
		t.Error("a reader's bytes changed with those handed in")
	}
	wantReader(t, r, 5, api.OK)
	if r.Num() != 0 {
		t.Error("read behind the end")
	}
	wantReader(t, r, 5, api.ErrShort)
}

// P6: two readers of the same bytes have nothing in common.
func TestReadersApart(t *testing.T) {
	b := []byte{1, 2}
	one, other := octet.Read(b), octet.Read(b)
	one.Num()
	one.Fixed(0)
	wantReader(t, other, 0, api.ErrForm)
	if other.Num() != 1 || other.Num() != 2 {
		t.Error("one reader moved another")
	}
	wantReader(t, other, 2, api.OK)
	wantReader(t, one, 1, api.ErrArg)
}
