package slot_test

import (
	"bytes"
	"encoding/binary"
	"hash/crc32"
	"math"
	"slices"
	"testing"

	"aumbry/api"
	"aumbry/disk"
	"aumbry/slot"
)

// The signatures that the chapter lists.
var (
	_ func(*disk.Disk, int) (*slot.Cell, api.Errno) = slot.Open
	_ func(*slot.Cell) ([]byte, api.Errno)          = (*slot.Cell).Get
	_ func(*slot.Cell, []byte) api.Errno            = (*slot.Cell).Set
	_ func(*slot.Cell) int                          = (*slot.Cell).Mark
)

// image is a sector of a cell by the chapter's words, whatever its parts are; its check sum is right.
func image(mark, again uint64, size byte, text string) []byte {
	b := binary.BigEndian.AppendUint64(nil, mark)
	b = append(append(b, size), text...)
	b = append(b, make([]byte, 116-len(b))...)
	b = binary.BigEndian.AppendUint32(b, crc32.Checksum(b, crc32.MakeTable(crc32.Castagnoli)))
	return binary.BigEndian.AppendUint64(b, again)
}

func whole(mark int, text string) []byte {
	return image(uint64(mark), uint64(mark), byte(len(text)), text)
}

func made(t *testing.T, sectors int) *disk.Disk {
	t.Helper()
	d, e := disk.New(sectors)
	if e != api.OK {
		t.Fatal(e)
	}
	return d
}

func opened(t *testing.T, d *disk.Disk, base int) *slot.Cell {
	t.Helper()
	c, e := slot.Open(d, base)
	if c == nil || e != api.OK {
		t.Fatalf("Open(%d) of %d sectors: %d", base, d.Sectors(), e)
	}
	return c
}

// laid is a cell at 0 of a disk of two sectors that have these bytes.
func laid(t *testing.T, first, second []byte) (*disk.Disk, *slot.Cell) {
	t.Helper()
	d := made(t, 2)
	for i, b := range [][]byte{first, second} {
		if e := d.Rot(i, b); e != api.OK {
			t.Fatal(e)
		}
	}
	return d, opened(t, d, 0)
}

func wantGet(t *testing.T, c *slot.Cell, text string, mark int) {
	t.Helper()
	p, e := c.Get()
	if string(p) != text || e != api.OK || c.Mark() != mark {
		t.Errorf("%q, %d, mark %d; want %q, mark %d", p, e, c.Mark(), text, mark)
	}
}

func wantNone(t *testing.T, c *slot.Cell, want api.Errno) {
	t.Helper()
	if p, e := c.Get(); len(p) != 0 || e != want || c.Mark() != 0 {
		t.Errorf("%q, %d, mark %d; want none, %d, 0", p, e, c.Mark(), want)
	}
}

func wantSet(t *testing.T, c *slot.Cell, text string, want api.Errno) {
	t.Helper()
	if e := c.Set([]byte(text)); e != want {
		t.Errorf("Set(%q): %d, want %d", text, e, want)
	}
}

func wantSector(t *testing.T, d *disk.Disk, i int, want []byte) {
	t.Helper()
	full := make([]byte, api.Sector)
	copy(full, want)
	if b, e := d.Read(i); !bytes.Equal(b, full) || e != api.OK {
		t.Errorf("sector %d: % x, %d; want % x", i, b, e, full)
	}
}

// P5.1
func TestOpen(t *testing.T) {
	for _, n := range []int{1, 2, 3, 9, api.MaxSectors} {
		d := made(t, n)
		for _, base := range []int{-1, -2, math.MinInt, n - 1, n, n + 1, math.MaxInt, math.MaxInt - 1, math.MinInt + 1} {
			if c, e := slot.Open(d, base); c != nil || e != api.ErrArg {
				t.Errorf("Open(%d) of %d sectors: %v, %d", base, n, c, e)
			}
		}
		if n > 1 {
			wantNone(t, opened(t, d, 0), api.ErrGone)
			wantNone(t, opened(t, d, n-2), api.ErrGone)
		}
	}
}

// P5.1: nothing is written, and no step is counted towards a trip.
func TestOpenWritesNothing(t *testing.T) {
	d := made(t, 4)
	d.Write(3, []byte("x"))
	d.Trip(1)
	c := opened(t, d, 1)
	c.Get()
	c.Mark()
	if !slices.Equal(d.Dirty(), []int{3}) || d.Down() || d.Life() != 0 {
		t.Error("written", d.Dirty())
	}
	wantSector(t, d, 1, nil)
	wantSector(t, d, 2, nil)
}

// P5.1: the errors, and which of them is named first.
func TestOpenErrors(t *testing.T) {
	for _, base := range []int{0, -1, math.MaxInt} {
		if c, e := slot.Open(nil, base); c != nil || e != api.ErrNil {
			t.Error("nil", c, e)
		}
	}
	d := made(t, 4)
	d.Trip(1)
	d.Flush()
	for _, base := range []int{0, 2, 3, -1, math.MinInt, math.MaxInt} {
		if c, e := slot.Open(d, base); c != nil || e != api.ErrDown {
			t.Error("down", base, c, e)
		}
	}
	d.Crash(api.Crash{})
	opened(t, d, 2)
}

// P5.1, P5.2: the chapter's example, and all of what is written.
func TestExample(t *testing.T) {
	d := made(t, 4)
	c := opened(t, d, 1)
	wantNone(t, c, api.ErrGone)
	wantSet(t, c, "a", api.OK)
	b, _ := d.Read(1)
	if !bytes.HasPrefix(b, []byte{0, 0, 0, 0, 0, 0, 0, 1, 1, 0x61, 0}) {
		t.Errorf("% x", b)
	}
	wantSector(t, d, 1, whole(1, "a"))
	wantSector(t, d, 2, nil)
	wantGet(t, c, "a", 1)
}

// P5.2: the sectors are written in turn, the marks count, all is flushed, and no other sector is touched.
func TestSetInTurn(t *testing.T) {
	d := made(t, 5)
	d.Rot(1, []byte("ahead"))
	d.Rot(4, []byte("behind"))
	c := opened(t, d, 2)
	was := []byte(nil)
	for mark := 1; mark < 600; mark++ {
		text := string(bytes.Repeat([]byte{byte(mark)}, mark%(api.MaxSlot+1)))
		wantSet(t, c, text, api.OK)
		wantGet(t, c, text, mark)
		here, there := 2+(mark+1)%2, 2+mark%2
		wantSector(t, d, here, whole(mark, text))
		wantSector(t, d, there, was)
		was = whole(mark, text)
		if len(d.Dirty()) != 0 {
			t.Fatal("not flushed", d.Dirty())
		}
	}
	wantSector(t, d, 1, []byte("ahead"))
	wantSector(t, d, 4, []byte("behind"))
}

// P5.2: a Set makes other dirty sectors sure, as the whole disk is flushed.
func TestSetFlushesAll(t *testing.T) {
	d := made(t, 4)
	d.Write(3, []byte("x"))
	wantSet(t, opened(t, d, 0), "a", api.OK)
	d.Crash(api.Crash{Torn: -1})
	wantSector(t, d, 3, []byte("x"))
}

// P5.2: all lengths, bytes of any kind.
func TestSetLengths(t *testing.T) {
	c := opened(t, made(t, 2), 0)
	wantSet(t, c, "kept", api.OK)
	for _, n := range []int{api.MaxSlot + 1, api.MaxSlot + 7, api.Sector, 255, 256, 257, 1 << 16} {
		wantSet(t, c, string(make([]byte, n)), api.ErrLimit)
		wantGet(t, c, "kept", 1)
	}
	for n := range api.MaxSlot + 1 {
		for k, x := range []byte{0, 1, 255} {
			text := string(bytes.Repeat([]byte{x}, n))
			wantSet(t, c, text, api.OK)
			wantGet(t, c, text, 2+3*n+k)
		}
	}
	if c.Set(nil) != api.OK {
		t.Error("nil is not the empty text")
	}
	wantGet(t, c, "", 2+3*(api.MaxSlot+1))
}

// P5.2: with an error nothing has changed, nor was a step counted towards a trip.
func TestSetErrorChangesNothing(t *testing.T) {
	d, c := laid(t, whole(5, "five"), whole(6, "six"))
	d.Trip(1)
	wantSet(t, c, string(make([]byte, 101)), api.ErrLimit)
	if len(d.Dirty()) != 0 || d.Down() {
		t.Error("written", d.Dirty(), d.Down())
	}
	wantSector(t, d, 0, whole(5, "five"))
	wantSector(t, d, 1, whole(6, "six"))
	wantSet(t, c, "x", api.ErrDown)
}

// P5.2: which sector counts, and which one is written next, with what mark.
func TestWhichCounts(t *testing.T) {
	torn := whole(9, "torn")
	torn[127]++
	for _, x := range []struct {
		first, second []byte
		text          string
		mark, next    int
	}{
		{whole(1, "a"), nil, "a", 1, 1},
		{nil, whole(1, "b"), "b", 1, 0},
		{whole(1, "a"), whole(2, "b"), "b", 2, 0},
		{whole(2, "a"), whole(1, "b"), "a", 2, 1},
		{whole(3, "a"), whole(3, "b"), "a", 3, 1},
		{whole(7, "a"), whole(7, "a"), "a", 7, 1},
		{whole(255, "a"), whole(256, "b"), "b", 256, 0},
		{whole(1<<32, "a"), whole(1<<32-1, "b"), "a", 1 << 32, 1},
		{whole(api.MaxNum-2, "a"), whole(api.MaxNum-1, "b"), "b", api.MaxNum - 1, 0},
		{whole(api.MaxNum-1, ""), whole(5, "b"), "", api.MaxNum - 1, 1},
		{torn, whole(2, "b"), "b", 2, 0},
		{whole(2, "a"), torn, "a", 2, 1},
		{[]byte("x"), whole(4, "b"), "b", 4, 0},
	} {
		d, c := laid(t, x.first, x.second)
		wantGet(t, c, x.text, x.mark)
		wantSet(t, c, "new", api.OK)
		wantGet(t, c, "new", x.mark+1)
		wantSector(t, d, x.next, whole(x.mark+1, "new"))
		wantSector(t, d, 1-x.next, [][]byte{x.first, x.second}[1-x.next])
	}
}

// P5.2: none counts.
func TestNoneCounts(t *testing.T) {
	bad := whole(9, "bad")
	bad[20]++
	for _, x := range [][2][]byte{{bad, nil}, {nil, bad}, {bad, bad}, {[]byte{1}, nil}, {nil, append(make([]byte, 127), 1)}} {
		d, c := laid(t, x[0], x[1])
		wantNone(t, c, api.ErrRot)
		wantSet(t, c, "new", api.OK)
		wantSector(t, d, 0, whole(1, "new"))
		wantSector(t, d, 1, x[1])
		wantGet(t, c, "new", 1)
	}
	_, c := laid(t, nil, nil)
	wantNone(t, c, api.ErrGone)
}

// P5.2: the greatest mark is told, but none comes behind it.
func TestGreatestMark(t *testing.T) {
	d, c := laid(t, whole(api.MaxNum, "last"), whole(3, "b"))
	wantGet(t, c, "last", api.MaxNum)
	wantSet(t, c, "x", api.ErrLimit)
	wantSet(t, c, "", api.ErrLimit)
	wantGet(t, c, "last", api.MaxNum)
	wantSector(t, d, 1, whole(3, "b"))
	_, c = laid(t, whole(api.MaxNum-1, "a"), nil)
	wantSet(t, c, "last", api.OK)
	wantGet(t, c, "last", api.MaxNum)
	wantSet(t, c, "more", api.ErrLimit)
}

// The word 'whole': each part that reads otherwise is seen, though the check sum is right.
func TestNotWhole(t *testing.T) {
	long := string(bytes.Repeat([]byte("x"), 107))
	for name, b := range map[string][]byte{
		"mark 0":              image(0, 0, 1, "a"),
		"above MaxNum":        image(api.MaxNum+1, api.MaxNum+1, 1, "a"),
		"the greatest number": image(math.MaxUint64, math.MaxUint64, 1, "a"),
		"below 0":             image(1<<63, 1<<63, 1, "a"),
		"another mark again":  image(5, 6, 1, "a"),
		"no mark again":       image(5, 0, 1, "a"),
		"too long":            image(5, 5, api.MaxSlot+1, long[:api.MaxSlot+1]),
		"up to the sum":       image(5, 5, 107, long),
		"beyond the sum":      image(5, 5, 108, long),
		"beyond the sector":   image(5, 5, 255, long),
		"not 0 behind":        image(5, 5, 1, "ab"),
		"not 0 at the end":    image(5, 5, 100, long),
		"not 0 behind none":   image(5, 5, 0, "a"),
	} {
		_, c := laid(t, b, nil)
		if p, e := c.Get(); len(p) != 0 || e != api.ErrRot || c.Mark() != 0 {
			t.Errorf("%s: %q, %d, %d", name, p, e, c.Mark())
		}
		_, c = laid(t, b, whole(1, "good"))
		wantGet(t, c, "good", 1)
		wantSet(t, c, "new", api.OK)
		wantGet(t, c, "new", 2)
	}
	_, c := laid(t, image(5, 5, 100, long[:100]), nil)
	wantGet(t, c, long[:100], 5)
}

// P5.1, P5.2: of nil, and of a struct that no call made (P1).
func TestNilAndUnmade(t *testing.T) {
	var none *slot.Cell
	wantNone(t, none, api.ErrNil)
	wantSet(t, none, "a", api.ErrNil)
	wantSet(t, none, string(make([]byte, 200)), api.ErrNil)
	unmade := &slot.Cell{}
	unmade.Get()
	unmade.Set([]byte("a"))
	unmade.Mark()
	if c, e := slot.Open(&disk.Disk{}, 0); c != nil || e != api.ErrArg {
		t.Error("a disk that no call made has sectors", e)
	}
}

// P5.2: stale, without power, both; which of them is named first.
func TestStaleAndDown(t *testing.T) {
	d, c := laid(t, whole(5, "five"), nil)
	d.Trip(1)
	d.Flush()
	wantNone(t, c, api.ErrDown)
	wantSet(t, c, "x", api.ErrDown)
	wantSet(t, c, string(make([]byte, 101)), api.ErrDown)
	d.Crash(api.Crash{})
	long := string(make([]byte, 101))
	for range 2 {
		wantNone(t, c, api.ErrStale)
		wantSet(t, c, "x", api.ErrStale)
		wantSet(t, c, long, api.ErrStale)
		d.Trip(1)
		d.Flush()
		wantNone(t, c, api.ErrStale)
		wantSet(t, c, "x", api.ErrStale)
		d.Crash(api.Crash{})
	}
	if len(d.Dirty()) != 0 {
		t.Error("a stale cell wrote")
	}
	wantGet(t, opened(t, d, 0), "five", 5)
}

// P5.1, P5.2: a cell keeps nothing of its sectors: it tells what another one sets, and what rots.
func TestCellsOfTheSameSectors(t *testing.T) {
	d := made(t, 2)
	one, two := opened(t, d, 0), opened(t, d, 0)
	wantSet(t, one, "a", api.OK)
	wantGet(t, two, "a", 1)
	wantSet(t, two, "b", api.OK)
	wantGet(t, one, "b", 2)
	d.Rot(1, nil)
	wantGet(t, one, "a", 1)
	d.Rot(0, nil)
	wantNone(t, two, api.ErrGone)
}

// Cells that lie one behind the other change nothing of each other.
func TestNeighbours(t *testing.T) {
	d := made(t, 6)
	var cells []*slot.Cell
	for base := 0; base < 6; base += 2 {
		cells = append(cells, opened(t, d, base))
	}
	for round := 1; round < 6; round++ {
		for i, c := range cells {
			wantSet(t, c, string(rune('a'+i)), api.OK)
			wantGet(t, c, string(rune('a'+i)), round)
		}
	}
}

// P3: what is handed in stays as it is, with the room behind it, and is not kept; what is answered is new memory.
func TestNothingShared(t *testing.T) {
	room := []byte("abcdefgh")
	d := made(t, 2)
	c := opened(t, d, 0)
	if c.Set(room[:3]) != api.OK || string(room) != "abcdefgh" {
		t.Errorf("%q", room)
	}
	clear(room)
	wantGet(t, c, "abc", 1)
	p, _ := c.Get()
	q, _ := c.Get()
	clear(p[:cap(p)])
	if string(q) != "abc" {
		t.Error("two answers share memory")
	}
	wantGet(t, c, "abc", 1)
}

// P4: a cell belongs to its disk; of a fork of that it knows nothing.
func TestForkOfTheDisk(t *testing.T) {
	d := made(t, 2)
	c := opened(t, d, 0)
	wantSet(t, c, "a", api.OK)
	f := d.Fork()
	of := opened(t, f, 0)
	wantSet(t, of, "b", api.OK)
	wantGet(t, c, "a", 1)
	f.Crash(api.Crash{})
	wantGet(t, c, "a", 1)
	wantNone(t, of, api.ErrStale)
	wantSet(t, c, "c", api.OK)
	wantGet(t, opened(t, f, 0), "b", 2)
}
