package pack_test

import (
	"bytes"
	"crypto/sha256"
	"encoding/binary"
	"math"
	"math/rand"
	"reflect"
	"slices"
	"testing"

	"aumbry/api"
	"aumbry/pack"
)

// sample is a container of three chunks.
func sample() image { return imageOf(12, []byte("one"), []byte("seven"), []byte("one")) }

func wantParse(t *testing.T, what string, b []byte, want api.Errno) {
	t.Helper()
	bin, e := pack.Parse(b)
	if e != want {
		t.Errorf("%s: %d; want %d", what, e, want)
	}
	if e != api.OK && (bin.ID != 0 || bin.Sectors != 0 || len(bin.Slots) != 0) {
		t.Errorf("%s: told beside an error: %v", what, bin)
	}
}

// flaw is something that is wrong with a container, and the error that the chapter names for it.
type flaw struct {
	what  string
	spoil func(*image)
	errno api.Errno
}

// flaws stand in the order in which the chapter names their errors; a group of them applies at one place of it.
func flaws() [][]flaw {
	rest := func(at int, x byte) func(*image) {
		return func(m *image) { m.rest = append(make([]byte, at-22), x) }
	}
	length := func(i, n int) func(*image) { return func(m *image) { m.rows[i].len = n } }
	total := func(more int) func(*image) {
		return func(m *image) {
			m.total += uint64(more)
			m.data = append(m.data, make([]byte, max(more, 0))...)[:m.total]
		}
	}
	return [][]flaw{
		{{"another text", func(m *image) { m.mark = "BIN2" }, api.ErrForm}, {"no text", func(m *image) { m.mark = "\x00\x00\x00\x00" }, api.ErrForm}, {"a text in small letters", func(m *image) { m.mark = "bIN1" }, api.ErrForm}},
		{{"another second Crc", func(m *image) { m.headFlaw = 1 }, api.ErrSum}, {"its highest bit", func(m *image) { m.headFlaw = 1 << 31 }, api.ErrSum}},
		{{"not 0 behind the 22", rest(22, 1), api.ErrForm}, {"not 0 at the end", rest(127, 255), api.ErrForm}, {"not 0 between", rest(80, 128), api.ErrForm}},
		{
			{"number MaxBins", func(m *image) { m.id = api.MaxBins }, api.ErrLimit}, {"the greatest number", func(m *image) { m.id = math.MaxUint32 }, api.ErrLimit},
			{"65 chunks", func(m *image) { m.count, m.rows = 65, slices.Repeat(m.rows[:1], 65) }, api.ErrLimit},
			{"the most chunks", func(m *image) { m.count = math.MaxUint16 }, api.ErrLimit},
		},
		{{"more bytes than there are", func(m *image) { m.total += 4096 }, api.ErrShort}, {"the most bytes", func(m *image) { m.total = math.MaxUint32 }, api.ErrShort}, {"more chunks than there are", func(m *image) { m.count += 50 }, api.ErrShort}},
		{{"another first Crc", func(m *image) { m.tableFlaw = 1 }, api.ErrSum}, {"its highest bit", func(m *image) { m.tableFlaw = 1 << 31 }, api.ErrSum}},
		{{"no length", length(0, 0), api.ErrArg}, {"too great a length", length(1, api.MaxChunk+1), api.ErrArg}, {"the greatest length", length(2, math.MaxUint16), api.ErrArg}, {"no length at last", length(2, 0), api.ErrArg}},
		{{"a byte more", total(1), api.ErrForm}, {"a byte less", total(-1), api.ErrForm}, {"no bytes", total(-11), api.ErrForm}, {"many more", total(700), api.ErrForm}},
	}
}

// P11.3: each error alone.
func TestParseErrors(t *testing.T) {
	for _, group := range flaws() {
		for _, f := range group {
			m := sample()
			f.spoil(&m)
			wantParse(t, f.what, m.bytes(), f.errno)
		}
	}
	for n := range 128 {
		wantParse(t, "too short", sample().bytes()[:n], api.ErrShort)
		wantParse(t, "too short", bytes.Repeat([]byte{0xff}, n), api.ErrShort)
	}
	wantParse(t, "nil", nil, api.ErrShort)
	wantParse(t, "zeros", make([]byte, 128), api.ErrForm)
}

// P11.3, P2: of two errors the one that is named first.
func TestParseErrorNamedFirst(t *testing.T) {
	groups := flaws()
	for i, firsts := range groups {
		for _, f := range firsts {
			for _, g := range slices.Concat(groups[i+1:]...) {
				m := sample()
				// A flaw that lays the table elsewhere goes ahead of one that has too few bytes behind.
				g.spoil(&m)
				f.spoil(&m)
				wantParse(t, f.what+", "+g.what, m.bytes(), f.errno)
			}
			m := sample()
			f.spoil(&m)
			wantParse(t, "too short, "+f.what, m.bytes()[:127], api.ErrShort)
		}
	}
}

// P11.3: a length is told to be wrong ahead of the sum of all, wherever it stands; lengths of which one is wrong may have the right sum.
func TestParseLengths(t *testing.T) {
	for _, lens := range [][]int{{0, 8, 3}, {513, 1, 1}, {1, 513, 1}, {1, 1, 513}, {11, 0, 0}, {600, 600, 600}, {0, 0, 0}} {
		m := sample()
		for i, n := range lens {
			m.rows[i].len = n
		}
		wantParse(t, "as the head says, or not", m.bytes(), api.ErrArg)
		m.data = nil
		for _, n := range lens {
			m.data = append(m.data, make([]byte, n)...)
		}
		m.total = uint64(len(m.data))
		wantParse(t, "as the head says", m.bytes(), api.ErrArg)
	}
	m := sample()
	m.rows[0].len, m.rows[1].len = 5, 3
	wantParse(t, "other lengths, with the same sum", m.bytes(), api.OK)
}

// P11.3: what is told.
func TestParse(t *testing.T) {
	b := sample().bytes()
	bin, e := pack.Parse(b)
	one, seven := sha256.Sum256([]byte("one")), sha256.Sum256([]byte("seven"))
	want := api.Bin{ID: 12, Sectors: 2, Slots: []api.Slot{{Sum: one, At: 128, Len: 3}, {Sum: seven, At: 131, Len: 5}, {Sum: one, At: 136, Len: 3}}}
	if e != api.OK || !reflect.DeepEqual(bin, want) {
		t.Errorf("%v, %d", bin, e)
	}
	for _, id := range []int{0, 255, 256, api.MaxBins - 1} {
		if bin, e := pack.Parse(imageOf(id, []byte("x")).bytes()); bin.ID != id || e != api.OK {
			t.Errorf("%v, %d", bin, e)
		}
	}
	if bin, e := pack.Parse(imageOf(9).bytes()); bin.ID != 9 || bin.Sectors != 1 || len(bin.Slots) != 0 || e != api.OK {
		t.Errorf("without chunks: %v, %d", bin, e)
	}
}

// P11.3: as many chunks as may be, of the most bytes: the containers that New makes are smaller.
func TestParseGreat(t *testing.T) {
	chunks := slices.Repeat([][]byte{make([]byte, api.MaxChunk)}, api.MaxSlots)
	bin, e := pack.Parse(imageOf(1, chunks...).bytes())
	if e != api.OK || len(bin.Slots) != 64 || bin.Sectors != 274 || bin.Slots[63].At != 128+63*512 {
		t.Errorf("%d slots, %d sectors, %d", len(bin.Slots), bin.Sectors, e)
	}
}

// P11.3: how many sectors it takes is told by the table's end, not by how many bytes there are; what is behind that plays no part.
func TestParseEnds(t *testing.T) {
	for n := 1; n <= 300; n++ {
		m := imageOf(3, bytes.Repeat([]byte("x"), n))
		end := 128 + n + 34
		whole := m.bytes()
		for _, b := range [][]byte{whole, whole[:end], append(slices.Clone(whole), 1, 2, 3), append(slices.Clone(whole[:end]), 9), append(slices.Clone(whole), make([]byte, 999)...)} {
			bin, e := pack.Parse(b)
			if e != api.OK || bin.Sectors != (end+127)/128 || len(bin.Slots) != 1 || bin.Slots[0].Len != n {
				t.Fatalf("a chunk of %d in %d bytes: %v, %d", n, len(b), bin, e)
			}
		}
		for _, short := range []int{end - 1, end - 33, end - 34, 128} {
			wantParse(t, "ends ahead of the table's end", whole[:short], api.ErrShort)
		}
	}
	for _, chunks := range [][][]byte{nil, {[]byte("x")}} {
		m := imageOf(3, chunks...)
		m.end = []byte("not 0")
		wantParse(t, "not 0 behind the table", m.bytes(), api.OK)
	}
}

// P11.3: what chunks are plays no part: Chunk looks at them.
func TestParseDoesNotLookAtChunks(t *testing.T) {
	m := sample()
	clear(m.data)
	wantParse(t, "other chunks", m.bytes(), api.OK)
}

// P11.3, P1: any bytes, against the chapter's words. Check sums are set right often, so that what is behind them is met.
func TestParseAnyBytes(t *testing.T) {
	r := rand.New(rand.NewSource(1))
	met := map[api.Errno]int{}
	for range 60000 {
		var chunks [][]byte
		for _, n := range lengths(r, r.Intn(5), 300) {
			chunks = append(chunks, text(r, n))
		}
		m := imageOf(r.Intn(5000), chunks...)
		b := m.bytes()
		table := 128 + len(m.data)
		for range r.Intn(4) {
			switch r.Intn(6) {
			case 0:
				b[r.Intn(len(b))] ^= 1 << r.Intn(8)
			case 1:
				b[r.Intn(30)] ^= 1 << r.Intn(8)
			case 2:
				b = b[:max(r.Intn(len(b)+1), 30)]
			case 3:
				if table+34 <= len(b) {
					b[table+32+r.Intn(2)] = byte(r.Intn(4))
				}
			case 4:
				if end := table + 34*len(chunks); end <= len(b) {
					binary.BigEndian.PutUint32(b[14:], crc(b[table:end]))
				}
			}
		}
		if r.Intn(8) > 0 {
			binary.BigEndian.PutUint32(b[18:], crc(b[:18]))
		}
		bin, e := pack.Parse(b)
		want, errno := parsed(b)
		if e != errno || bin.ID != want.ID || bin.Sectors != want.Sectors || !slices.Equal(bin.Slots, want.Slots) {
			t.Fatalf("% x: %v, %d; want %v, %d", b, bin, e, want, errno)
		}
		met[e]++
	}
	for _, e := range []api.Errno{api.OK, api.ErrShort, api.ErrForm, api.ErrSum, api.ErrLimit, api.ErrArg} {
		if met[e] < 100 {
			t.Errorf("%d was met %d times", e, met[e])
		}
	}
}

// P11.5 (B1)
func TestParseOfBytes(t *testing.T) {
	for seed := range int64(60) {
		r := rand.New(rand.NewSource(seed))
		id := r.Intn(api.MaxBins)
		p := made(t, id, 4+r.Intn(61))
		var chunks [][]byte
		for _, n := range lengths(r, 70, []int{5, 100, 512}[seed%3]) {
			if n <= p.Room() {
				chunks = append(chunks, text(r, n))
				add(t, p, chunks[len(chunks)-1])
			}
			if len(chunks)%7 == 0 {
				wantTold(t, p.Bytes(), id, p.Sums(), chunks)
			}
		}
		wantTold(t, p.Bytes(), id, p.Sums(), chunks)
	}
}

func wantTold(t *testing.T, b []byte, id int, sums []api.Sum, chunks [][]byte) {
	t.Helper()
	bin, e := pack.Parse(b)
	if e != api.OK || bin.ID != id || bin.Sectors != len(b)/128 || len(bin.Slots) != len(chunks) {
		t.Fatalf("%v, %d", bin, e)
	}
	for i, s := range bin.Slots {
		if c, e := pack.Chunk(b, s); !bytes.Equal(c, chunks[i]) || e != api.OK || s.Sum != sums[i] {
			t.Fatalf("the chunk %d: % x, %d; want % x", i, c, e, chunks[i])
		}
	}
}

// P11.7: up to four bytes, one behind the other, of the head's first 18, or of the table.
func TestChangesAreTold(t *testing.T) {
	r := rand.New(rand.NewSource(7))
	for _, count := range []int{1, 2, 5} {
		p := made(t, 77, 40)
		for range count {
			add(t, p, text(r, 1+r.Intn(40)))
		}
		b := p.Bytes()
		bin, _ := pack.Parse(b)
		table := bin.Slots[count-1].At + bin.Slots[count-1].Len
		for _, span := range [][2]int{{0, 18}, {table, table + 34*count}} {
			for at := span[0]; at < span[1]; at++ {
				wantChangesTold(t, b, at, min(4, span[1]-at), r)
			}
		}
	}
}

func wantChangesTold(t *testing.T, b []byte, at, most int, r *rand.Rand) {
	t.Helper()
	for x := 1; x < 256; x++ {
		bad := slices.Clone(b)
		bad[at] ^= byte(x)
		if _, e := pack.Parse(bad); e == api.OK {
			t.Errorf("the byte %d, changed by %02x, is not told", at, x)
		}
	}
	for range 200 {
		bad := slices.Clone(b)
		r.Read(bad[at : at+most])
		if _, e := pack.Parse(bad); e == api.OK && !bytes.Equal(bad, b) {
			t.Errorf("%d bytes from %d on: not told", most, at)
		}
	}
}

func wantChunk(t *testing.T, b []byte, s api.Slot, want string, errno api.Errno) {
	t.Helper()
	if c, e := pack.Chunk(b, s); string(c) != want || e != errno {
		t.Errorf("Chunk of %d bytes, %d from %d on: %q, %d; want %q, %d", len(b), s.Len, s.At, c, e, want, errno)
	}
}

// P11.4
func TestChunk(t *testing.T) {
	b := bytes.Repeat([]byte("abcdefgh"), 200)
	for _, n := range []int{1, 2, 63, 64, api.MaxChunk - 1, api.MaxChunk} {
		for _, at := range []int{0, 1, 127, 128, len(b) - n - 1, len(b) - n} {
			s := api.Slot{Sum: sha256.Sum256(b[at : at+n]), At: at, Len: n}
			wantChunk(t, b, s, string(b[at:at+n]), api.OK)
			for i := range s.Sum {
				bad := s
				bad.Sum[i] ^= 1 << (i % 8)
				wantChunk(t, b, bad, "", api.ErrRot)
			}
			rotten := slices.Clone(b)
			rotten[at+n/2] ^= 1
			wantChunk(t, rotten, s, "", api.ErrRot)
		}
	}
	wantChunk(t, []byte("x"), api.Slot{Sum: sha256.Sum256([]byte("x")), Len: 1}, "x", api.OK)
}

// P11.4, P2, P5: the errors, and which is named first; no number goes round.
func TestChunkErrors(t *testing.T) {
	b := make([]byte, 1000)
	for _, n := range []int{0, -1, api.MaxChunk + 1, math.MinInt, math.MaxInt} {
		for _, at := range []int{0, 5, 999, 1000, -1, math.MinInt, math.MaxInt} {
			wantChunk(t, b, api.Slot{At: at, Len: n}, "", api.ErrArg)
			wantChunk(t, nil, api.Slot{At: at, Len: n}, "", api.ErrArg)
		}
	}
	for _, at := range []int{-1, -2, math.MinInt, math.MinInt + 1} {
		for _, n := range []int{1, 2, api.MaxChunk} {
			wantChunk(t, b, api.Slot{At: at, Len: n}, "", api.ErrArg)
			wantChunk(t, nil, api.Slot{At: at, Len: n}, "", api.ErrArg)
		}
	}
	for _, n := range []int{1, 2, api.MaxChunk} {
		for _, at := range []int{1000 - n + 1, 1000, 1001, math.MaxInt - n, math.MaxInt - 1, math.MaxInt} {
			wantChunk(t, b, api.Slot{At: at, Len: n}, "", api.ErrShort)
		}
		wantChunk(t, nil, api.Slot{Len: n}, "", api.ErrShort)
		wantChunk(t, b[:n-1], api.Slot{Sum: sha256.Sum256(b[:n]), Len: n}, "", api.ErrShort)
		wantChunk(t, b, api.Slot{At: 1000 - n, Len: n}, "", api.ErrRot)
	}
}

// P3: what is handed in stays as it is; what is told is new memory.
func TestParseAndChunkMemory(t *testing.T) {
	b := sample().bytes()
	kept := slices.Clone(b)
	bin, _ := pack.Parse(b)
	c, _ := pack.Chunk(b, bin.Slots[1])
	again, _ := pack.Chunk(b, bin.Slots[1])
	if !bytes.Equal(b, kept) {
		t.Error("what is handed in is changed")
	}
	for i := range c[:cap(c)] {
		c[:cap(c)][i] = 0xee
	}
	if !bytes.Equal(b, kept) || string(again) != "seven" {
		t.Error("a chunk lies in other memory")
	}
	other, _ := pack.Parse(b)
	clear(bin.Slots[:cap(bin.Slots)])
	clear(b)
	if len(other.Slots) != 3 || other.Slots[1].Len != 5 || string(again) != "seven" {
		t.Error("answers share memory")
	}
}
