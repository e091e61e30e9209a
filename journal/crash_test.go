package journal_test

import (
	"fmt"
	"math/rand"
	"slices"
	"testing"

	"aumbry/api"
	"aumbry/disk"
	"aumbry/journal"
)

func told(l *journal.Log) []string {
	recs := []string{}
	for _, rec := range l.Records() {
		recs = append(recs, string(rec))
	}
	return recs
}

// isBeginning: are recs a beginning of all, with at least so many?
func isBeginning(recs, all []string, least int) bool {
	return len(recs) >= least && len(recs) <= len(all) && slices.Equal(recs, all[:len(recs)])
}

// crashes are all choices of which of so many dirty sectors are kept, without a torn one, and with one of them torn at places of all its parts.
func crashes(dirty int) []api.Crash {
	var l []api.Crash
	for keep := range 1 << dirty {
		var c api.Crash
		for i := range dirty {
			c.Keep = append(c.Keep, keep>>i&1 == 1)
		}
		c.Torn = -1
		l = append(l, c)
		for i := range dirty {
			for _, at := range []int{0, 3, 5, 6, 8, 9, 10, 40, 117, 118, 120, 122, 123, 127, 128} {
				c.Torn, c.At = i, at
				l = append(l, c)
			}
		}
	}
	return l
}

// used is a journal both of whose areas are full of leaves of elder epochs that say the same as newer ones; its epoch is 255, so that the next one parts from it in two bytes.
func used(t *testing.T) (*disk.Disk, *journal.Log) {
	t.Helper()
	d, l := begun(t)
	for area, r := range areas {
		for i := range r.N {
			d.Rot(r.At+i, leaf(250+area, i, whole, "one"))
		}
	}
	setCell(t, d, named(1, 251))
	l = opened(t, d)
	for range 2 {
		want(t, "Renew", l.Renew(rows("one", text(150), "one", "one")), api.OK)
	}
	wantCell(t, d, 1, 253)
	want(t, "Renew", l.Renew(rows("one", text(150), "one", text(330), "one")), api.OK)
	want(t, "Renew", l.Renew(nil), api.OK)
	wantCell(t, d, 1, 255)
	return d, l
}

// outlived opens a journal behind a crash of a disk's fork, and holds it against what it may tell; then it goes on, and what was told is told still.
func outlived(t *testing.T, d *disk.Disk, c api.Crash, may func(recs []string) bool) {
	t.Helper()
	f := d.Fork()
	f.Crash(c)
	l := opened(t, f)
	recs := told(l)
	if l.Settled() || !may(recs) {
		t.Fatalf("behind %v: %.200q", c, recs)
	}
	// A second crash, and a second Open, tell the same.
	f.Crash(api.Crash{Torn: 0, At: 9})
	l = opened(t, f)
	want(t, "Renew", l.Renew(l.Records()), api.OK)
	f.Crash(api.Crash{})
	if l = opened(t, f); !slices.Equal(told(l), recs) {
		t.Fatalf("behind %v, and a Renew: %.200q, want %.200q", c, told(l), recs)
	}
}

// P14.4 (B3): appended records of one leaf and of several, broken off at each write, or not; each sector kept or lost, one of them torn.
func TestAppendOutlivesCrashes(t *testing.T) {
	first, _ := used(t)
	for trip := range 8 {
		d := first.Fork()
		l := opened(t, d)
		want(t, "Renew", l.Renew(rows("one", "two")), api.OK)
		want(t, "Append", l.Append([]byte("one")), api.OK)
		want(t, "Flush", l.Flush(), api.OK)
		d.Trip(trip)
		all, recs := []string{"one", "two", "one"}, []string{"one", text(330), "more"}
		for _, rec := range recs {
			if l.Append([]byte(rec)) == api.OK {
				all = append(all, rec)
			}
		}
		may := func(recs []string) bool { return isBeginning(recs, all, 3) }
		for _, c := range crashes(len(d.Dirty())) {
			outlived(t, d, c, may)
		}
		if kept := slices.Repeat([]bool{true}, 9); !d.Down() {
			outlived(t, d, api.Crash{Keep: kept, Torn: -1}, func(recs []string) bool { return len(recs) == 6 })
		}
	}
}

// P14.4 (B3): a sector that is lost ends what is told, though those behind it are kept.
func TestLostSectorEndsIt(t *testing.T) {
	d, l := begun(t)
	var recs []string
	for i := range 8 {
		recs = append(recs, fmt.Sprint("record ", i))
		want(t, "Append", l.Append([]byte(recs[i])), api.OK)
	}
	for lost := range 8 {
		keep := slices.Repeat([]bool{true}, 8)
		keep[lost] = false
		outlived(t, d, api.Crash{Keep: keep, Torn: -1}, func(told []string) bool { return slices.Equal(told, recs[:lost]) })
	}
}

// P14.5 (B3): a Renew that is broken off at each write and flush: what stood ahead is told (a beginning of it, with what was flushed), or what was to be; behind its first flush nothing of what stood is lost.
func TestRenewOutlivesCrashes(t *testing.T) {
	first, _ := used(t)
	next := []string{"one", text(150)}
	for trip := 1; trip <= 7; trip++ {
		d := first.Fork()
		l := opened(t, d)
		want(t, "Renew", l.Renew(rows("one", "one")), api.OK)
		want(t, "Append", l.Append([]byte("sure")), api.OK)
		want(t, "Flush", l.Flush(), api.OK)
		want(t, "Append", l.Append([]byte(text(150))), api.OK)
		stood := []string{"one", "one", "sure", text(150)}
		d.Trip(trip)
		e := l.Renew(rows(next...))
		want(t, "Renew", e, map[bool]api.Errno{true: api.ErrDown, false: api.OK}[trip <= 6])
		least := 3
		if trip > 4 {
			least = 4
		}
		met := [2]int{}
		may := func(recs []string) bool {
			if slices.Equal(recs, next) {
				met[1]++
				return trip >= 6
			}
			met[0]++
			return trip <= 6 && isBeginning(recs, stood, least)
		}
		for _, c := range crashes(len(d.Dirty())) {
			outlived(t, d, c, may)
		}
		if (met[0] > 0) != (trip <= 6) || (met[1] > 0) != (trip >= 6) {
			t.Error("trip", trip, "met", met)
		}
	}
}

// P14.5 (B3): behind a Renew that was OK its records are told, with a beginning of what was appended since.
func TestBehindRenew(t *testing.T) {
	for _, flushed := range []bool{false, true} {
		d, l := used(t)
		want(t, "Renew", l.Renew(rows("new", text(250))), api.OK)
		all, least := []string{"new", text(250), "more", text(200)}, 2
		want(t, "Append", l.Append([]byte("more")), api.OK)
		if flushed {
			want(t, "Flush", l.Flush(), api.OK)
			least = 3
		}
		want(t, "Append", l.Append([]byte(text(200))), api.OK)
		for _, c := range crashes(len(d.Dirty())) {
			outlived(t, d, c, func(recs []string) bool { return isBeginning(recs, all, least) })
		}
	}
}

// P14.1: the first Open of a disk that is broken off: behind a crash there is no journal yet, or one without records, or the cell has rotted (5).
func TestFirstOpenBrokenOff(t *testing.T) {
	met := map[api.Errno]int{}
	for trip := 1; trip <= 2; trip++ {
		for _, c := range crashes(trip - 1) {
			d := made(t, 40)
			d.Trip(trip)
			if l, e := journal.Open(d, base, areas[0], areas[1]); l != nil || e != api.ErrDown {
				t.Fatal("not broken off", e)
			}
			d.Crash(c)
			l, e := journal.Open(d, base, areas[0], areas[1])
			met[e]++
			if e == api.OK {
				wantLog(t, l, l.Settled(), 12)
			}
		}
	}
	if met[api.OK] < 3 || met[api.ErrRot] < 3 || len(met) != 2 {
		t.Error("met", met)
	}
}

// life is a journal, and what it may tell behind a crash.
type life struct {
	d    *disk.Disk
	l    *journal.Log
	recs []string
	sure int      // how many of these outlive a crash
	next []string // what a Renew that was broken off was to have; nil: none was
	n    int      // how many records there were ever: no two are alike
}

func (x *life) record(r *rand.Rand) string {
	x.n++
	s := fmt.Sprint("record ", x.n, " ")
	return s + text(r.Intn([]int{20, 120, 500}[r.Intn(3)]))
}

// step is one of the calls, which must answer as the model says, unless the power goes.
func (x *life) step(t *testing.T, r *rand.Rand) {
	t.Helper()
	switch r.Intn(8) {
	case 0:
		if x.l.Flush() == api.OK {
			x.sure = len(x.recs)
		}
	case 1, 2:
		x.renew(t, r)
	default:
		rec := x.record(r)
		e, left := x.l.Append([]byte(rec)), x.l.Left()
		switch {
		case e == api.OK:
			x.recs = append(x.recs, rec)
		case e == api.ErrSpace && journal.Takes(len(rec)) > left, e == api.ErrState && !x.l.Settled(), e == api.ErrDown && x.d.Down():
		default:
			t.Fatal("Append", e, "left", left)
		}
	}
	if got := told(x.l); !slices.Equal(got, x.recs) {
		t.Fatalf("%.300q, want %.300q", got, x.recs)
	}
}

func (x *life) renew(t *testing.T, r *rand.Rand) {
	t.Helper()
	next := []string{}
	for _, rec := range x.recs {
		if r.Intn(4) > 0 {
			next = append(next, rec)
		}
	}
	if r.Intn(2) == 0 {
		next = append(next, x.record(r))
	}
	switch e := x.l.Renew(rows(next...)); {
	case e == api.OK:
		x.recs, x.sure = next, len(next)
	case e == api.ErrDown && x.d.Down():
		// A second Renew, without power, is none.
		if x.next == nil {
			x.next = next
		}
	case e != api.ErrSpace:
		t.Fatal("Renew", e)
	}
}

// crash is a crash of any kind, behind which the journal is opened.
func (x *life) crash(t *testing.T, r *rand.Rand) {
	t.Helper()
	dirty := len(x.d.Dirty())
	c := api.Crash{Torn: r.Intn(dirty+2) - 1, At: r.Intn(131) - 1}
	for range dirty {
		c.Keep = append(c.Keep, r.Intn(3) > 0)
	}
	x.d.Crash(c)
	want(t, "Append", x.l.Append([]byte("x")), api.ErrStale)
	x.l = opened(t, x.d)
	got := told(x.l)
	if !isBeginning(got, x.recs, x.sure) && (x.next == nil || !slices.Equal(got, x.next)) {
		t.Fatalf("behind a crash: %.300q; stood %.300q, sure %d, to be %.300q", got, x.recs, x.sure, x.next)
	}
	x.recs, x.sure, x.next = got, len(got), nil
}

// P14.1 to P14.6: many lives of random steps, with crashes of any kind.
func TestRandomLives(t *testing.T) {
	for seed := range int64(200) {
		r := rand.New(rand.NewSource(seed))
		x := &life{d: made(t, 40)}
		x.l = opened(t, x.d)
		for range 40 {
			if r.Intn(2) == 0 {
				x.d.Trip(1 + r.Intn(20))
			}
			for range r.Intn(12) {
				if x.d.Down() {
					break
				}
				x.step(t, r)
			}
			x.crash(t, r)
		}
	}
}
