package journal_test

import (
	"bytes"
	"fmt"
	"math/rand"
	"slices"
	"strings"
	"testing"

	"aumbry/api"
	"aumbry/disk"
	"aumbry/journal"
)

// laid is a disk whose cell names an area and an epoch, in which these sectors stand.
func laid(t *testing.T, area, epoch int, l ...[]byte) *disk.Disk {
	t.Helper()
	d := made(t, 40)
	setCell(t, d, named(area, epoch))
	lay(d, areas[area].At, l...)
	return d
}

// The word 'leaf': each part that reads otherwise is seen, though the check sum is right.
func TestNoLeaf(t *testing.T) {
	long := strings.Repeat("x", 108)
	const top = 1<<48 - 1
	for name, b := range map[string][]byte{
		"another epoch":       leaf(6, 1, whole, "a"),
		"an elder epoch":      leaf(4, 1, whole, "a"),
		"epoch 0":             leaf(0, 1, whole, "a"),
		"another epoch again": image(5, 6, 1, whole, 1, "a"),
		"no epoch again":      image(5, 0, 1, whole, 1, "a"),
		"this epoch again":    image(6, 5, 1, whole, 1, "a"),
		"a greater epoch":     leaf(5+1<<32, 1, whole, "a"),
		"the greatest epoch":  leaf(top, 1, whole, "a"),
		"another number":      leaf(5, 0, whole, "a"),
		"the next number":     leaf(5, 2, whole, "a"),
		"a greater number":    leaf(5, 257, whole, "a"),
		"kind 0":              leaf(5, 1, 0, "a"),
		"kind 5":              leaf(5, 1, 5, "a"),
		"kind 129":            leaf(5, 1, 129, "a"),
		"kind 255":            leaf(5, 1, 255, "a"),
		"no bytes":            image(5, 5, 1, whole, 0, ""),
		"no bytes, but one":   image(5, 5, 1, whole, 0, "a"),
		"too many":            image(5, 5, 1, whole, 109, long),
		"beyond the sector":   image(5, 5, 1, whole, 255, long),
		"not 0 behind":        image(5, 5, 1, whole, 1, "ab"),
		"not 0 at the end":    image(5, 5, 1, whole, 107, long),
		"bytes 0":             nil,
		"another sum":         slices.Replace(leaf(5, 1, whole, "a"), 121, 122, 9),
	} {
		for area := range areas {
			d := laid(t, area, 5, leaf(5, 0, whole, "first"), b, leaf(5, 2, whole, "third"))
			l := opened(t, d)
			if got := l.Records(); len(got) != 1 || string(got[0]) != "first" || l.Left() != areas[area].N-1 {
				t.Errorf("%s: %q, left %d", name, got, l.Left())
			}
		}
	}
	d := laid(t, 1, top, leaf(top, 0, whole, long), leaf(top, 1, whole, "\x00"))
	wantLog(t, opened(t, d), false, 7, long, "\x00")
}

// P14.1: each byte of a leaf that rots is seen.
func TestRotIsSeen(t *testing.T) {
	for _, s := range []string{"a", text(60), text(108)} {
		for at := range api.Sector {
			for _, bit := range []byte{1, 2, 16, 128} {
				bad := leaf(5, 1, whole, s)
				bad[at] ^= bit
				d := laid(t, 0, 5, leaf(5, 0, whole, "first"), bad, leaf(5, 2, whole, "third"))
				wantLog(t, opened(t, d), false, 11, "first")
			}
		}
	}
}

// The word 'record': which leaves, one behind the other, are records. Leaves need not be full.
func TestRead(t *testing.T) {
	for kinds, want := range map[string][]string{
		"":              nil,
		"1":             {"0"},
		"2":             nil,
		"3":             nil,
		"4":             nil,
		"11":            {"0", "1"},
		"24":            {"01"},
		"234":           {"012"},
		"233334":        {"012345"},
		"23333":         nil,
		"2341":          {"012", "3"},
		"2424":          {"01", "23"},
		"124":           {"0", "12"},
		"21":            nil,
		"2124":          nil,
		"22":            nil,
		"224":           nil,
		"2214":          nil,
		"2324":          nil,
		"23124":         nil,
		"124411":        {"0", "12"},
		"14":            {"0"},
		"13":            {"0"},
		"134":           {"0"},
		"141":           {"0"},
		"1323":          {"0"},
		"2431":          {"01"},
		"24341":         {"01"},
		"241":           {"01", "2"},
		"204":           nil,
		"254":           nil,
		"294":           nil,
		"2304":          nil,
		"2534":          nil,
		"1024":          {"0"},
		"1524":          {"0"},
		"24024":         {"01"},
		"111111111111":  {"0", "1", "2", "3", "4", "5", "6", "7", "8", "9", ":", ";"},
		"233333333334":  {"0123456789:;"},
		"242424242424":  {"01", "23", "45", "67", "89", ":;"},
		"111111111112":  {"0", "1", "2", "3", "4", "5", "6", "7", "8", "9", ":"},
		"1111111111124": {"0", "1", "2", "3", "4", "5", "6", "7", "8", "9", ":"},
	} {
		var l [][]byte
		left := 12
		for i, k := range kinds {
			l = append(l, leaf(5, i, int(k-'0'), string(rune('0'+i))))
		}
		for _, rec := range want {
			left -= len(rec)
		}
		// The last one's 13th leaf stands behind the area.
		wantLog(t, opened(t, laid(t, 0, 5, l...)), false, left, want...)
	}
	// A gap: what stands behind it is not told.
	d := laid(t, 0, 5, leaf(5, 0, first, "a"), leaf(5, 1, last, "b"), nil, leaf(5, 3, whole, "c"))
	wantLog(t, opened(t, d), false, 10, "ab")
	d = laid(t, 0, 5, nil, leaf(5, 1, whole, "c"))
	wantLog(t, opened(t, d), false, 12)
}

// The word 'record': at most MaxRec bytes together.
func TestReadLongest(t *testing.T) {
	a, b := api.Run{At: 3, N: 600}, api.Run{At: 700, N: 2}
	for _, x := range []struct{ middles, last, want int }{{150, 76, 1}, {150, 77, 0}, {150, 108, 0}, {151, 1, 0}, {149, 108, 1}, {200, 1, 0}, {400, 5, 0}} {
		d := made(t, 1000)
		setCell(t, d, named(0, 5))
		l := [][]byte{leaf(5, 0, whole, "ahead"), leaf(5, 1, first, text(108))}
		for range x.middles {
			l = append(l, leaf(5, len(l), middle, text(108)))
		}
		l = append(l, leaf(5, len(l), last, text(x.last)))
		l = append(l, leaf(5, len(l), whole, "behind"))
		lay(d, a.At, l...)
		got, e := journal.Open(d, base, a, b)
		want(t, "Open", e, api.OK)
		recs, left := []string{"ahead"}, 599
		if x.want == 1 {
			recs = append(recs, strings.Repeat(text(108), x.middles+1)+text(x.last), "behind")
			left -= x.middles + 3
		}
		wantLog(t, got, false, left, recs...)
	}
}

// P14.1 and the words: sectors of all kinds against a plain reader.
func TestReadAny(t *testing.T) {
	r := rand.New(rand.NewSource(1))
	met := map[int]int{}
	for range 3000 {
		area, epoch := r.Intn(2), 1+r.Intn(3)
		var l [][]byte
		var recs []string
		rec, end, reads := "", 0, true
		under := false
		for i := range areas[area].N {
			kind, of, n := 1+r.Intn(4), epoch, i
			if r.Intn(3) > 0 { // mostly a kind that goes on rightly
				kind = []int{whole, first}[r.Intn(2)]
				if under {
					kind = []int{middle, last}[r.Intn(2)]
				}
			}
			if r.Intn(12) == 0 {
				of = 1 + r.Intn(3)
			}
			if r.Intn(20) == 0 {
				n = r.Intn(12)
			}
			s := text(1 + r.Intn(108))
			l = append(l, leaf(of, n, kind, s))
			starts := kind == whole || kind == first
			reads = reads && of == epoch && n == i && starts != under
			if !reads {
				continue
			}
			rec += s
			under = kind == first || kind == middle
			if !under {
				recs, rec, end = append(recs, rec), "", i+1
			}
		}
		met[len(recs)]++
		wantLog(t, opened(t, laid(t, area, epoch, l...)), false, areas[area].N-end, recs...)
	}
	if len(met) < 5 {
		t.Error("met", met)
	}
}

// six is a number's six bytes.
func six(n int) []byte { return leaf(n, 0, whole, "x")[:6] }

// The word 'new epoch': one above the greatest number at either end of any sector of both areas, whatever else stands there, and above the one that counts.
func TestNewEpoch(t *testing.T) {
	const top = 1<<48 - 1
	for _, n := range []int{1, 2, 5, 6, 255, 256, 1 << 16, 1 << 32, 1 << 40, top - 1, top} {
		for _, at := range []int{4, 5, 12, 20, 21, 31} {
			for _, b := range [][]byte{six(n), append(make([]byte, 122), six(n)...), append(append(six(min(n, 7)), make([]byte, 116)...), six(n)...), image(uint64(n), 3, 0, whole, 1, "a")} {
				d := made(t, 40)
				d.Rot(at, b)
				wantEpoch(t, d, max(n, epochOf(b)))
				d = made(t, 40)
				d.Rot(at, b)
				setCell(t, d, named(1, 5))
				wantRenewed(t, d, max(n, 5, epochOf(b)))
			}
		}
	}
	for _, n := range []int{1, 127, 128, 1 << 40, top - 1, top} {
		d := made(t, 40)
		setCell(t, d, named(1, n))
		wantRenewed(t, d, n)
	}
	// The cell may name an epoch of which there can be no leaves: nothing is read then, and none comes behind it.
	for _, n := range []int{top + 1, 1 << 50, api.MaxNum} {
		d := laid(t, 1, n, leaf(n&top, 0, whole, "a"))
		wantRenewed(t, d, top)
	}
}

// epochOf is the greater number at a sector's ends.
func epochOf(b []byte) int {
	full := append(bytes.Clone(b), make([]byte, api.Sector-len(b))...)
	n := 0
	for _, end := range [][]byte{full[:6], full[122:]} {
		x := 0
		for _, y := range end {
			x = x<<8 + int(y)
		}
		n = max(n, x)
	}
	return n
}

// wantEpoch: opened as new, the epoch is one above.
func wantEpoch(t *testing.T, d *disk.Disk, above int) {
	t.Helper()
	l, e := journal.Open(d, base, areas[0], areas[1])
	if above == 1<<48-1 {
		if l != nil || e != api.ErrLimit || len(d.Dirty()) != 0 {
			t.Error("Open beyond the greatest epoch", e)
		}
		return
	}
	want(t, "Open", e, api.OK)
	wantCell(t, d, 0, above+1)
	wantLog(t, l, true, 12)
	want(t, "Append", l.Append([]byte("x")), api.OK)
	wantSectors(t, d, api.Run{At: 20, N: 1}, leaf(above+1, 0, whole, "x"))
}

// wantRenewed: opened and renewed, the epoch is one above.
func wantRenewed(t *testing.T, d *disk.Disk, above int) {
	t.Helper()
	l := opened(t, d)
	e := l.Renew(rows("x"))
	if above == 1<<48-1 {
		want(t, "Renew beyond the greatest epoch", e, api.ErrLimit)
		wantLog(t, l, false, 9)
		return
	}
	want(t, "Renew", e, api.OK)
	wantCell(t, d, 0, above+1)
	wantSectors(t, d, api.Run{At: 20, N: 1}, leaf(above+1, 0, whole, "x"))
	wantLog(t, l, true, 11, "x")
}

// The word 'new epoch': sectors elsewhere, and numbers elsewhere in a sector, play no part.
func TestNewEpochElsewhere(t *testing.T) {
	d := made(t, 40)
	for _, i := range []int{0, 3, 13, 19, 32, 39} {
		d.Rot(i, bytes.Repeat([]byte{255}, 128))
	}
	for _, r := range areas {
		for i := range r.N {
			d.Rot(r.At+i, append(make([]byte, 6), bytes.Repeat([]byte{255}, 116)...))
		}
	}
	wantEpoch(t, d, 0)
}

// The word 'new epoch': what was written, but not flushed, is asked, too.
func TestNewEpochOfDirty(t *testing.T) {
	d := made(t, 40)
	d.Write(12, six(70))
	wantEpoch(t, d, 70)
}

// P14.6: an epoch whose leaves stand in an area, but for which the cell was never set, is not used again.
func TestBrokenRenewsEpoch(t *testing.T) {
	d, l := begun(t)
	want(t, "Append", l.Append([]byte("stood")), api.OK)
	want(t, "Flush", l.Flush(), api.OK)
	d.Trip(5) // the four leaves are written, and the flush is not done
	want(t, "Renew", l.Renew(rows("a", "b", "c", "d")), api.ErrDown)
	d.Crash(api.Crash{Torn: -1, Keep: []bool{true, true, true, true}})
	l = opened(t, d)
	wantLog(t, l, false, 11, "stood")
	want(t, "Renew", l.Renew(rows("stood")), api.OK)
	wantCell(t, d, 1, 3)
	wantLog(t, opened(t, d), false, 8, "stood")
	for i := range 3 {
		wantSectors(t, d, api.Run{At: areas[1].At + 1 + i, N: 1}, leaf(2, 1+i, whole, string(rune('b'+i))))
	}
}

// P14.6: what an elder life appended behind the end is not told when records come to stand ahead of it.
func TestElderLifeBehindTheEnd(t *testing.T) {
	d, l := begun(t)
	want(t, "Append", l.Append([]byte("a")), api.OK)
	want(t, "Flush", l.Flush(), api.OK)
	for i := range 6 {
		want(t, "Append", l.Append(fmt.Appendf(nil, "lost %d", i)), api.OK)
	}
	d.Crash(api.Crash{Torn: -1, Keep: []bool{false, true, true, true, true, true}})
	for life := range 6 {
		l = opened(t, d)
		recs := []string{"a"}
		for i := range life {
			recs = append(recs, fmt.Sprint("life ", i))
		}
		wantLog(t, l, false, areas[life%2].N-len(recs), recs...)
		want(t, "Renew", l.Renew(l.Records()), api.OK)
		want(t, "Append", l.Append(fmt.Appendf(nil, "life %d", life)), api.OK)
		want(t, "Flush", l.Flush(), api.OK)
		d.Crash(api.Crash{Torn: -1})
	}
}
