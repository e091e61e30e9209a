package journal_test

import (
	"bytes"
	"encoding/binary"
	"fmt"
	"hash/crc32"
	"math"
	"slices"
	"testing"

	"aumbry/api"
	"aumbry/disk"
	"aumbry/journal"
	"aumbry/slot"
)

// The signatures that the chapter lists.
var (
	_ func(*disk.Disk, int, api.Run, api.Run) (*journal.Log, api.Errno) = journal.Open
	_ func(*journal.Log) [][]byte                                       = (*journal.Log).Records
	_ func(*journal.Log, []byte) api.Errno                              = (*journal.Log).Append
	_ func(*journal.Log) api.Errno                                      = (*journal.Log).Flush
	_ func(*journal.Log, [][]byte) api.Errno                            = (*journal.Log).Renew
	_ func(*journal.Log) bool                                           = (*journal.Log).Settled
	_ func(*journal.Log) int                                            = (*journal.Log).Left
	_ func(int) int                                                     = journal.Takes
)

const (
	base   = 1 // of the cell: the sectors 1 and 2
	whole  = 1
	first  = 2
	middle = 3
	last   = 4
)

// The areas of most tests: neither lies beside the cell, or the other one, or at an end of the disk, which has 40 sectors.
var areas = [2]api.Run{{At: 20, N: 12}, {At: 4, N: 9}}

// image is a leaf's sector by the chapter's words, whatever its parts are; its check sum is right.
func image(epoch, again uint64, number, kind, size int, text string) []byte {
	b := binary.BigEndian.AppendUint64(nil, epoch)[2:]
	b = binary.BigEndian.AppendUint16(b, uint16(number))
	b = append(append(b, byte(kind), byte(size)), text...)
	b = append(b, make([]byte, 118-len(b))...)
	b = binary.BigEndian.AppendUint32(b, crc32.Checksum(b, crc32.MakeTable(crc32.Castagnoli)))
	return append(b, binary.BigEndian.AppendUint64(nil, again)[2:]...)
}

func leaf(epoch, number, kind int, text string) []byte {
	return image(uint64(epoch), uint64(epoch), number, kind, len(text), text)
}

// sectors are the leaves of records, from that number on.
func sectors(epoch, number int, recs ...string) [][]byte {
	var l [][]byte
	for _, rec := range recs {
		for at := 0; at < len(rec); at += 108 {
			kind := middle
			switch {
			case len(rec) <= 108:
				kind = whole
			case at == 0:
				kind = first
			case at+108 >= len(rec):
				kind = last
			}
			l = append(l, leaf(epoch, number, kind, rec[at:min(at+108, len(rec))]))
			number++
		}
	}
	return l
}

// text is so many bytes, which tell where they stand.
func text(n int) string {
	b := make([]byte, n)
	for i := range b {
		b[i] = byte(i*7 + i/108 + n)
	}
	return string(b)
}

func rows(l ...string) [][]byte {
	var rows [][]byte
	for _, s := range l {
		rows = append(rows, []byte(s))
	}
	return rows
}

func made(t *testing.T, n int) *disk.Disk {
	t.Helper()
	d, e := disk.New(n)
	if e != api.OK {
		t.Fatal(e)
	}
	return d
}

func opened(t *testing.T, d *disk.Disk) *journal.Log {
	t.Helper()
	l, e := journal.Open(d, base, areas[0], areas[1])
	if l == nil || e != api.OK {
		t.Fatal("Open", e)
	}
	return l
}

// begun is a journal on a new disk: its epoch is 1, in the area 0.
func begun(t *testing.T) (*disk.Disk, *journal.Log) {
	t.Helper()
	d := made(t, 40)
	return d, opened(t, d)
}

// setCell has a cell have a text.
func setCell(t *testing.T, d *disk.Disk, text string) {
	t.Helper()
	c, _ := slot.Open(d, base)
	if e := c.Set([]byte(text)); e != api.OK {
		t.Fatal(e)
	}
}

func named(area, epoch int) string {
	return string(binary.AppendUvarint([]byte{byte(area)}, uint64(epoch)))
}

func wantCell(t *testing.T, d *disk.Disk, area, epoch int) {
	t.Helper()
	c, _ := slot.Open(d, base)
	if p, e := c.Get(); string(p) != named(area, epoch) || e != api.OK {
		t.Errorf("the cell has % x, %d; want area %d, epoch %d", p, e, area, epoch)
	}
}

func want(t *testing.T, what string, e, want api.Errno) {
	t.Helper()
	if e != want {
		t.Errorf("%s: %d, want %d", what, e, want)
	}
}

// wantLog: is the journal settled, how many sectors are left, and which are its records?
func wantLog(t *testing.T, l *journal.Log, settled bool, left int, recs ...string) {
	t.Helper()
	got := l.Records()
	if l.Settled() != settled || l.Left() != left || !slices.EqualFunc(got, recs, func(b []byte, s string) bool { return string(b) == s }) {
		t.Errorf("settled %v, left %d, %d records %.300q; want %v, %d, %d records %.300q", l.Settled(), l.Left(), len(got), got, settled, left, len(recs), recs)
	}
}

// wantSectors: the sectors from at on have these bytes, those behind them up to the run's end 0.
func wantSectors(t *testing.T, d *disk.Disk, r api.Run, want ...[]byte) {
	t.Helper()
	for i := range r.N {
		full := make([]byte, api.Sector)
		if i < len(want) {
			copy(full, want[i])
		}
		if b, _ := d.Read(r.At + i); !bytes.Equal(b, full) {
			t.Errorf("sector %d:\n% x\nwant\n% x", r.At+i, b, full)
		}
	}
}

// lay has sectors be sure from at on.
func lay(d *disk.Disk, at int, l ...[]byte) {
	for i, b := range l {
		d.Rot(at+i, b)
	}
}

// P14.1: the chapter's examples, and numbers of any size.
func TestTakes(t *testing.T) {
	for n, want := range map[int]int{
		math.MinInt: 0, -109: 0, -108: 0, -1: 0, 0: 0, 1: 1, 107: 1, 108: 1, 109: 2, 216: 2, 217: 3, 324: 3, 325: 4,
		api.MaxRec: 152, api.MaxRec + 1: 152, 1 << 20: 9710, math.MaxInt - 1: math.MaxInt/108 + 1, math.MaxInt: math.MaxInt/108 + 1,
	} {
		if got := journal.Takes(n); got != want {
			t.Errorf("Takes(%d): %d, want %d", n, got, want)
		}
	}
	for n := 1; n < 2000; n++ {
		if got := journal.Takes(n); got != len(sectors(1, 0, text(n))) {
			t.Errorf("Takes(%d): %d", n, got)
		}
	}
}

// P14.1: a new disk: the cell names the area 0 and the epoch 1, and nothing else is written.
func TestOpenNew(t *testing.T) {
	d, l := begun(t)
	wantLog(t, l, true, 12)
	wantCell(t, d, 0, 1)
	wantSectors(t, d, api.Run{At: 3, N: 37})
	wantSectors(t, d, api.Run{At: 0, N: 1})
	if len(d.Dirty()) != 0 || d.Life() != 0 {
		t.Error("not flushed", d.Dirty())
	}
	// The cell's own write and flush are all that is done.
	for trip := range 4 {
		d := made(t, 40)
		d.Trip(trip)
		l, e := journal.Open(d, base, areas[0], areas[1])
		if down := trip == 1 || trip == 2; down != (e == api.ErrDown) || down != (l == nil) || !down && e != api.OK {
			t.Error("trip", trip, l, e)
		}
	}
}

// P14.1: opened again, in the same life or another one, it is not settled, and nothing is written.
func TestOpenAgain(t *testing.T) {
	d, l := begun(t)
	want(t, "Append", l.Append([]byte("one")), api.OK)
	want(t, "Append", l.Append([]byte(text(300))), api.OK)
	dirty := d.Dirty()
	d.Trip(1)
	wantLog(t, opened(t, d), false, 8, "one", text(300))
	if !slices.Equal(d.Dirty(), dirty) || d.Down() {
		t.Error("written", d.Dirty())
	}
	d.Trip(0)
	want(t, "Flush", l.Flush(), api.OK)
	d.Crash(api.Crash{Torn: -1})
	wantLog(t, opened(t, d), false, 8, "one", text(300))
	wantLog(t, opened(t, d), false, 8, "one", text(300))
	wantCell(t, d, 0, 1)
}

// P14.1, P2: the errors of Open, and which is named first.
func TestOpenErrors(t *testing.T) {
	wantOpen := func(d *disk.Disk, base int, a, b api.Run, want api.Errno) {
		t.Helper()
		if l, e := journal.Open(d, base, a, b); e != want || (l != nil) != (want == api.OK) {
			t.Errorf("Open(%d, %v, %v): %v, %d; want %d", base, a, b, l, e, want)
		}
	}
	wrong := api.Run{At: -1, N: 1}
	wantOpen(nil, 0, areas[0], areas[1], api.ErrNil)
	wantOpen(nil, -1, wrong, wrong, api.ErrNil)
	d := made(t, 40)
	d.Trip(1)
	d.Flush()
	wantOpen(d, 0, areas[0], areas[1], api.ErrDown)
	wantOpen(d, -1, wrong, wrong, api.ErrDown)
	d = made(t, 40)
	for _, at := range []int{-1, 39, 40, math.MinInt, math.MaxInt} {
		wantOpen(d, at, areas[0], areas[1], api.ErrArg)
	}
	wantOpen(&disk.Disk{}, 0, areas[0], areas[1], api.ErrArg)
	// The areas are asked ahead of the cell's bytes.
	d.Rot(0, []byte("rot"))
	wantOpen(d, 0, areas[0], areas[1], api.ErrRot)
	wantOpen(d, 0, wrong, areas[1], api.ErrArg)
	wantOpen(d, 0, areas[0], wrong, api.ErrArg)
	// An epoch there is none of, but ErrGone ahead of it is no error.
	d = made(t, 40)
	d.Rot(areas[1].At, bytes.Repeat([]byte{255}, 6))
	wantOpen(d, base, areas[0], areas[1], api.ErrLimit)
	wantOpen(d, base, areas[0], api.Run{At: 5, N: 2}, api.OK)
	if d.Rot(0, nil); len(d.Dirty()) != 0 {
		t.Error("dirty", d.Dirty())
	}
}

// P14.1, P5: all areas, the cell anywhere: at least two sectors, on the disk, none in two.
func TestOpenAreas(t *testing.T) {
	apart := func(runs ...api.Run) bool {
		used := map[int]int{}
		for _, r := range runs {
			if r.N < 2 || r.N > 8 || r.At < 0 || r.At > 8 || r.At+r.N > 8 {
				return false
			}
			for i := range r.N {
				used[r.At+i]++
			}
		}
		for _, n := range used {
			if n > 1 {
				return false
			}
		}
		return true
	}
	ok := 0
	known := map[int]*disk.Disk{} // disks on which there was a journal already
	for cell := range 7 {
		known[cell] = made(t, 8)
		c, _ := slot.Open(known[cell], cell)
		c.Set([]byte(named(0, 1)))
		for at := -1; at <= 9; at++ {
			for n := -1; n <= 9; n++ {
				for at2 := -1; at2 <= 9; at2++ {
					for n2 := -1; n2 <= 9; n2++ {
						a, b := api.Run{At: at, N: n}, api.Run{At: at2, N: n2}
						wantE := api.ErrArg
						if apart(api.Run{At: cell, N: 2}, a, b) {
							wantE = api.OK
							ok++
						}
						for _, d := range []*disk.Disk{made(t, 8), known[cell].Fork()} {
							l, e := journal.Open(d, cell, a, b)
							if e != wantE || l.Left() != map[api.Errno]int{api.OK: n}[wantE] {
								t.Fatalf("cell %d, %v, %v: %d, left %d; want %d", cell, a, b, e, l.Left(), wantE)
							}
						}
					}
				}
			}
		}
	}
	if ok < 100 {
		t.Error("met", ok)
	}
	there, _ := begun(t)
	for _, far := range []int{math.MaxInt, math.MaxInt - 1, math.MinInt, math.MinInt + 1, 1 << 62} {
		for _, r := range []api.Run{{At: far, N: far}, {At: far, N: 2}, {At: 2, N: far}, {At: far, N: -far}, {At: -far, N: far}, {At: 0, N: far}} {
			for _, d := range []*disk.Disk{made(t, 40), there} {
				for _, x := range [][2]api.Run{{r, areas[1]}, {areas[0], r}} {
					if l, e := journal.Open(d, base, x[0], x[1]); l != nil || e != api.ErrArg {
						t.Error(x, l, e)
					}
				}
			}
		}
	}
}

// P14.1: what a cell has that is an area and an epoch, and what is none. An error changes nothing.
func TestOpenCell(t *testing.T) {
	for text, left := range map[string]int{
		named(0, 1): 12, named(1, 1): 9, named(0, 127): 12, named(1, 128): 9, named(0, 1<<48-1): 12, named(1, 1<<48-1): 9,
	} {
		d := made(t, 40)
		setCell(t, d, text)
		wantLog(t, opened(t, d), false, left)
	}
	for _, text := range []string{
		"", "\x00", "\x01", "\x02", "\x00\x00", "\x01\x00", "\x02\x01", "\x03\x01", "\xff\x01", "\x80\x01", "\x01\x01\x00", "\x00\x01\x01",
		"\x00\x80", "\x00\x80\x00", "\x00\x81\x00", "\x00\x80\x80\x80\x80\x80\x80\x80\x10", "\x00\xff\xff\xff\xff\xff\xff\xff\xff\x01",
	} {
		d := made(t, 40)
		setCell(t, d, text)
		if l, e := journal.Open(d, base, areas[0], areas[1]); l != nil || e != api.ErrRot {
			t.Errorf("% x: %v, %d", text, l, e)
		}
		if len(d.Dirty()) != 0 {
			t.Error("written")
		}
	}
	// Rot of both sectors of the cell; of one the elder one counts.
	d, l := begun(t)
	want(t, "Renew", l.Renew(rows("new")), api.OK)
	d.Rot(base+1, []byte("rot"))
	wantLog(t, opened(t, d), false, 12)
	d.Rot(base, []byte("rot"))
	if l, e := journal.Open(d, base, areas[0], areas[1]); l != nil || e != api.ErrRot {
		t.Error(l, e)
	}
}

// P14.2: what is written, sector by sector, and nothing else; it is not flushed.
func TestAppend(t *testing.T) {
	d, l := begun(t)
	var recs []string
	left := 12
	for _, n := range []int{1, 108, 109, 216, 217, 50} {
		recs = append(recs, text(n))
		left -= journal.Takes(n)
		want(t, "Append", l.Append([]byte(text(n))), api.OK)
		wantLog(t, l, true, left, recs...)
		wantSectors(t, d, areas[0], sectors(1, 0, recs...)...)
	}
	if n := len(d.Dirty()); n != 12-left || d.Dirty()[0] != 20 {
		t.Error("dirty", d.Dirty())
	}
	want(t, "Append", l.Append([]byte(text(109))), api.OK)
	wantLog(t, l, true, 0, append(recs, text(109))...)
	wantSectors(t, d, areas[1])
	wantSectors(t, d, api.Run{At: 32, N: 8})
	wantCell(t, d, 0, 1)
	wantLog(t, opened(t, d), false, 0, append(recs, text(109))...)
}

// P14.2: no room, at the last sector, and with some left.
func TestAppendSpace(t *testing.T) {
	d, l := begun(t)
	want(t, "Append", l.Append([]byte(text(12*108+1))), api.ErrSpace)
	want(t, "Append", l.Append([]byte(text(api.MaxRec))), api.ErrSpace)
	wantLog(t, l, true, 12)
	want(t, "Append", l.Append([]byte(text(12*108))), api.OK)
	wantLog(t, l, true, 0, text(12*108))
	want(t, "Append", l.Append([]byte("x")), api.ErrSpace)
	wantLog(t, l, true, 0, text(12*108))
	d, l = begun(t)
	want(t, "Append", l.Append([]byte(text(9*108+1))), api.OK)
	d.Trip(1)
	want(t, "Append", l.Append([]byte(text(2*108+1))), api.ErrSpace)
	wantLog(t, l, true, 2, text(9*108+1))
	if d.Down() {
		t.Error("a step was done")
	}
	d.Trip(0)
	want(t, "Append", l.Append([]byte(text(2*108))), api.OK)
	wantLog(t, l, true, 0, text(9*108+1), text(2*108))
}

// P14.2: the longest record.
func TestAppendLongest(t *testing.T) {
	d := made(t, 4096)
	a, b := api.Run{At: 2, N: 600}, api.Run{At: 602, N: 3494}
	l, e := journal.Open(d, 0, a, b)
	want(t, "Open", e, api.OK)
	want(t, "Append", l.Append([]byte(text(api.MaxRec+1))), api.ErrLimit)
	want(t, "Append", l.Append([]byte(text(1<<20))), api.ErrLimit)
	want(t, "Append", l.Append([]byte(text(api.MaxRec))), api.OK)
	want(t, "Append", l.Append([]byte("x")), api.OK)
	l, e = journal.Open(d, 0, a, b)
	want(t, "Open", e, api.OK)
	wantLog(t, l, false, 600-153, text(api.MaxRec), "x")
	// Numbers of leaves in both of their bytes.
	many := slices.Repeat([]string{text(150)}, 1747)
	want(t, "Renew", l.Renew(rows(many...)), api.OK)
	wantLog(t, l, true, 0, many...)
	l, e = journal.Open(d, 0, a, b)
	want(t, "Open", e, api.OK)
	wantLog(t, l, false, 0, many...)
	wantSectors(t, d, b, sectors(2, 0, many...)...)
}

// P14.2, P2: the errors of Append, Flush and Renew, in the order in which they are named.
func TestOrder(t *testing.T) {
	long := make([]byte, api.MaxRec+1)
	recs := [][]byte{nil, {}, long, []byte(text(13 * 108)), []byte("x")}
	each := func(l *journal.Log, what string, append, flush, renew []api.Errno) {
		t.Helper()
		for i, rec := range recs {
			want(t, fmt.Sprint(what, ": Append ", i), l.Append(rec), append[min(i, len(append)-1)])
		}
		for i, rec := range recs {
			want(t, fmt.Sprint(what, ": Renew ", i), l.Renew([][]byte{rec}), renew[min(i, len(renew)-1)])
		}
		want(t, what+": Flush", l.Flush(), flush[0])
	}
	one := func(e ...api.Errno) []api.Errno { return e }
	each(nil, "nil", one(api.ErrNil), one(api.ErrNil), one(api.ErrNil))
	d, l := begun(t)
	l = opened(t, d)
	d.Trip(1)
	each(l, "unsettled", one(api.ErrState), one(api.ErrDown), one(api.ErrArg, api.ErrArg, api.ErrLimit, api.ErrSpace, api.ErrDown))
	each(l, "down", one(api.ErrDown), one(api.ErrDown), one(api.ErrDown))
	d.Crash(api.Crash{})
	each(l, "stale", one(api.ErrStale), one(api.ErrStale), one(api.ErrStale))
	d.Trip(1)
	d.Flush()
	each(l, "stale and down", one(api.ErrStale), one(api.ErrStale), one(api.ErrStale))
	wantLog(t, l, false, 12)
	d, l = begun(t)
	each(l, "settled", one(api.ErrArg, api.ErrArg, api.ErrLimit, api.ErrSpace, api.OK), one(api.OK), one(api.ErrArg, api.ErrArg, api.ErrLimit, api.ErrSpace, api.OK))
	d.Trip(1)
	d.Flush()
	each(l, "settled and down", one(api.ErrDown), one(api.ErrDown), one(api.ErrDown))
	d.Crash(api.Crash{})
	each(l, "settled and stale", one(api.ErrStale), one(api.ErrStale), one(api.ErrStale))
	wantLog(t, l, true, 8, "x")
}

// P14.1: of nil, and of a struct that no call made (P1).
func TestNilAndUnmade(t *testing.T) {
	var none *journal.Log
	wantLog(t, none, false, 0)
	unmade := &journal.Log{}
	unmade.Append([]byte("x"))
	unmade.Append(nil)
	unmade.Renew(nil)
	unmade.Renew(rows("x"))
	unmade.Flush()
	unmade.Records()
	unmade.Left()
	unmade.Settled()
}

// P14.2: a Flush makes sure what was appended, and counts as one step.
func TestFlush(t *testing.T) {
	d, l := begun(t)
	want(t, "Append", l.Append([]byte(text(200))), api.OK)
	d.Write(0, []byte("other"))
	want(t, "Flush", l.Flush(), api.OK)
	if len(d.Dirty()) != 0 {
		t.Error("dirty", d.Dirty())
	}
	want(t, "Append", l.Append([]byte("lost")), api.OK)
	d.Trip(2)
	want(t, "Flush", l.Flush(), api.OK)
	want(t, "Flush", l.Flush(), api.ErrDown)
	want(t, "Flush", l.Flush(), api.ErrDown)
	wantLog(t, l, true, 9, text(200), "lost")
}

// P14.2: a Write's error: the record is none, and the leaves are written in order.
func TestAppendBrokenOff(t *testing.T) {
	for trip := 1; trip <= 5; trip++ {
		d, l := begun(t)
		want(t, "Append", l.Append([]byte("one")), api.OK)
		want(t, "Flush", l.Flush(), api.OK)
		d.Trip(trip)
		e := api.ErrDown
		if trip == 5 {
			e = api.OK
		}
		want(t, "Append", l.Append([]byte(text(400))), e)
		var dirty []int
		for i := range min(trip-1, 4) {
			dirty = append(dirty, 21+i)
		}
		if !slices.Equal(d.Dirty(), dirty) {
			t.Error("dirty", d.Dirty(), "want", dirty)
		}
		if trip < 5 {
			wantLog(t, l, true, 11, "one")
			d.Crash(api.Crash{Torn: -1, Keep: []bool{true, true, true, true}})
			wantLog(t, opened(t, d), false, 11, "one")
		}
	}
}

// P14.3: what is written, sector by sector; all of it is sure; the areas take turns, the epochs count.
func TestRenew(t *testing.T) {
	d, l := begun(t)
	want(t, "Append", l.Append([]byte("gone")), api.OK)
	was := sectors(1, 0, "gone")
	for epoch := 2; epoch < 300; epoch++ {
		recs := []string{text(epoch), fmt.Sprint("epoch ", epoch), text(109)}
		area := (epoch + 1) % 2
		want(t, "Renew", l.Renew(rows(recs...)), api.OK)
		left := areas[area].N - journal.Takes(epoch) - 3
		wantLog(t, l, true, left, recs...)
		wantCell(t, d, area, epoch)
		now := sectors(epoch, 0, recs...)
		wantSectors(t, d, api.Run{At: areas[area].At, N: len(now)}, now...)
		wantSectors(t, d, api.Run{At: areas[1-area].At, N: len(was)}, was...)
		if len(d.Dirty()) != 0 {
			t.Fatal("not flushed", d.Dirty())
		}
		want(t, "Append", l.Append([]byte("more")), api.OK)
		wantLog(t, l, true, left-1, append(recs, "more")...)
		wantSectors(t, d, api.Run{At: areas[area].At + len(now), N: 1}, leaf(epoch, len(now), whole, "more"))
		was = sectors(epoch, 0, append(recs, "more")...)
		wantLog(t, opened(t, d), false, left-1, append(recs, "more")...)
	}
	wantSectors(t, d, api.Run{At: 32, N: 8})
	wantSectors(t, d, api.Run{At: 13, N: 7})
	wantSectors(t, d, api.Run{At: 0, N: 1})
}

// P14.3: of no records, and of as many as there is room for.
func TestRenewBounds(t *testing.T) {
	for _, none := range [][][]byte{nil, {}} {
		d, l := begun(t)
		want(t, "Append", l.Append([]byte("gone")), api.OK)
		want(t, "Renew", l.Renew(none), api.OK)
		wantLog(t, l, true, 9)
		wantCell(t, d, 1, 2)
		wantSectors(t, d, areas[1])
		wantLog(t, opened(t, d), false, 9)
	}
	d, l := begun(t)
	nine := slices.Repeat([]string{"x"}, 9)
	want(t, "Renew", l.Renew(rows(nine...)), api.OK)
	wantLog(t, l, true, 0, nine...)
	wantLog(t, opened(t, d), false, 0, nine...)
	// The other area is asked, not the one that counts.
	want(t, "Renew", l.Renew(rows(text(12*108+1))), api.ErrSpace)
	want(t, "Renew", l.Renew(rows(text(12*108))), api.OK)
	wantLog(t, l, true, 0, text(12*108))
	want(t, "Renew", l.Renew(rows(text(9*108), "x")), api.ErrSpace)
	want(t, "Renew", l.Renew(rows(text(8*108+1), "x")), api.ErrSpace)
	wantLog(t, l, true, 0, text(12*108))
	want(t, "Renew", l.Renew(rows("x", text(8*108))), api.OK)
	wantLog(t, l, true, 0, "x", text(8*108))
}

// P14.3, P2: the first record that has an error tells it, ahead of room and epochs; nothing has changed.
func TestRenewErrors(t *testing.T) {
	long, wide := text(api.MaxRec+1), text(13*108)
	for _, x := range []struct {
		recs []string
		want api.Errno
	}{
		{[]string{""}, api.ErrArg}, {[]string{long}, api.ErrLimit}, {[]string{"", long}, api.ErrArg}, {[]string{long, ""}, api.ErrLimit},
		{[]string{"a", "", long}, api.ErrArg}, {[]string{"a", long, ""}, api.ErrLimit}, {[]string{wide, ""}, api.ErrArg}, {[]string{wide, wide, long}, api.ErrLimit},
		{[]string{wide}, api.ErrSpace}, {[]string{"a", wide}, api.ErrSpace}, {[]string{text(api.MaxRec)}, api.ErrSpace}, {slices.Repeat([]string{"a"}, 13), api.ErrSpace},
		{[]string{"a"}, api.ErrLimit}, {nil, api.ErrLimit},
	} {
		d := made(t, 40)
		setCell(t, d, named(1, 1<<48-1))
		lay(d, areas[1].At, sectors(1<<48-1, 0, "stood")...)
		l := opened(t, d)
		d.Trip(1)
		want(t, fmt.Sprintf("%.20q", x.recs), l.Renew(rows(x.recs...)), x.want)
		wantLog(t, l, false, 8, "stood")
		if len(d.Dirty()) != 0 || d.Down() {
			t.Error("written", d.Dirty())
		}
	}
}

// P14.3: where the cell can't be set any more, that is told, and the records stand.
func TestRenewCellsLimit(t *testing.T) {
	d, l := begun(t)
	want(t, "Append", l.Append([]byte("stood")), api.OK)
	cell := binary.BigEndian.AppendUint64(nil, api.MaxNum)
	cell = append(cell, 2, 0, 1)
	cell = append(cell, make([]byte, 116-len(cell))...)
	cell = binary.BigEndian.AppendUint32(cell, crc32.Checksum(cell, crc32.MakeTable(crc32.Castagnoli)))
	d.Rot(base, binary.BigEndian.AppendUint64(cell, api.MaxNum))
	for range 2 {
		want(t, "Renew", l.Renew(rows("other")), api.ErrLimit)
		wantLog(t, l, true, 11, "stood")
		wantLog(t, opened(t, d), false, 11, "stood")
	}
	want(t, "Append", l.Append([]byte("more")), api.OK)
	wantLog(t, opened(t, d), false, 10, "stood", "more")
}

// P3: what is handed in stays as it is, with the room behind it, and is not kept; what is answered is new memory.
func TestMemory(t *testing.T) {
	d, l := begun(t)
	room := []byte("abcdefgh")
	want(t, "Append", l.Append(room[:3]), api.OK)
	recs := [][]byte{[]byte("one"), []byte(text(200)), []byte("behind")}
	if string(room) != "abcdefgh" {
		t.Errorf("%q", room)
	}
	clear(room)
	wantLog(t, l, true, 11, "abc")
	spoil(l.Records())
	wantLog(t, l, true, 11, "abc")
	want(t, "Renew", l.Renew(recs[:2]), api.OK)
	if string(recs[0])+string(recs[1])+string(recs[2]) != "one"+text(200)+"behind" {
		t.Error("changed")
	}
	spoil(recs)
	wantLog(t, l, true, 6, "one", text(200))
	again := opened(t, d)
	spoil(again.Records())
	wantLog(t, again, false, 6, "one", text(200))
	wantLog(t, l, true, 6, "one", text(200))
	// No record lies in the room behind another one.
	for _, r := range again.Records() {
		_ = append(r, "xxx"...)
	}
	got := l.Records()
	for _, r := range got {
		_ = append(r, "xxx"...)
	}
	if string(got[0]) != "one" || string(got[1]) != text(200) {
		t.Errorf("%q", got)
	}
	wantLog(t, l, true, 6, "one", text(200))
}

func spoil(l [][]byte) {
	for _, r := range l {
		clear(r[:cap(r)])
	}
	clear(l[:cap(l)])
}

// P4: a journal belongs to its disk; of a fork of that it knows nothing.
func TestForkOfTheDisk(t *testing.T) {
	d, l := begun(t)
	want(t, "Append", l.Append([]byte("a")), api.OK)
	f := d.Fork()
	of := opened(t, f)
	want(t, "Renew", of.Renew(rows("b", "c")), api.OK)
	wantLog(t, l, true, 11, "a")
	wantLog(t, opened(t, d), false, 11, "a")
	f.Crash(api.Crash{})
	want(t, "Append", l.Append([]byte("d")), api.OK)
	want(t, "Append", of.Append([]byte("d")), api.ErrStale)
	wantLog(t, opened(t, d), false, 10, "a", "d")
	wantLog(t, opened(t, f), false, 7, "b", "c")
}
