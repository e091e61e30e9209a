package slot_test

import (
	"bytes"
	"fmt"
	"math/rand"
	"testing"

	"aumbry/api"
	"aumbry/disk"
	"aumbry/slot"
)

// crashes are all that may become of one dirty sector: it is lost, kept, or torn at any byte.
func crashes() []api.Crash {
	l := []api.Crash{{Torn: -1}, {Torn: -1, Keep: []bool{true}}, {Torn: 0, At: -1}, {Torn: 0, At: api.Sector + 1}}
	for at := range api.Sector + 1 {
		l = append(l, api.Crash{Torn: 0, At: at})
	}
	return l
}

// told is a cell's bytes, or its error, as one text.
func told(c *slot.Cell) string {
	p, e := c.Get()
	return fmt.Sprintf("%d %d %q", e, c.Mark(), p)
}

// P5.3: behind a Set that was OK all crashes leave its bytes.
func TestSetOutlivesCrashes(t *testing.T) {
	d := made(t, 3)
	for mark := 1; mark <= 300; mark++ {
		text := fmt.Sprint("text ", mark)
		wantSet(t, opened(t, d, 0), text, api.OK)
		for _, c := range []api.Crash{{Torn: -1}, {Torn: 0, At: mark % 129}, {Torn: 0, At: 0, Keep: []bool{true}}} {
			d.Crash(c)
			wantGet(t, opened(t, d, 0), text, mark)
		}
	}
}

// P5.4: a Set that is broken off at its write or at its flush, and a crash of any kind: its bytes are told, or what was told ahead. The marks are such that one, two or more of their bytes change.
func TestSetBrokenOff(t *testing.T) {
	long := string(bytes.Repeat([]byte("y"), api.MaxSlot))
	for _, old := range [][2][]byte{
		{nil, nil}, {whole(1, "a"), nil}, {whole(1, "a"), whole(2, "b")}, {whole(3, "a"), whole(2, "b")},
		{whole(255, "a"), whole(254, long)}, {whole(255, "a"), whole(256, "b")}, {whole(257, "a"), whole(256, "b")},
		{whole(1<<16, ""), whole(1<<16-1, "")}, {whole(1<<32-2, "a"), whole(1<<32-1, "b")},
		{whole(1, "a"), whole(1<<48-1, "b")}, {whole(api.MaxNum-1, "a"), whole(api.MaxNum-2, "b")},
		{[]byte("rot"), whole(7, "b")}, {whole(7, "a"), []byte("rot")}, {[]byte("rot"), []byte("rot")}, {whole(7, "a"), whole(7, "b")},
	} {
		for _, text := range []string{"", "a", "b", "new", long} {
			for _, trip := range []int{1, 2} {
				for _, crash := range crashes() {
					wantOldOrNew(t, old, text, trip, crash)
				}
			}
		}
	}
}

func wantOldOrNew(t *testing.T, old [2][]byte, text string, trip int, crash api.Crash) {
	t.Helper()
	d, c := laid(t, old[0], old[1])
	before, mark := told(c), c.Mark()
	d.Trip(trip)
	if e := c.Set([]byte(text)); e != api.ErrDown {
		t.Fatal("not broken off", e)
	}
	d.Crash(crash)
	after := told(opened(t, d, 0))
	ahead := before
	if after == toldNone(api.ErrRot) && before == toldNone(api.ErrGone) {
		ahead = after
	}
	done := fmt.Sprintf("%d %d %q", api.OK, mark+1, text)
	if after != ahead && (trip == 1 || after != done) {
		t.Fatalf("trip %d, crash %v: %s; ahead %s, to be %s", trip, crash, after, before, done)
	}
	if kept := len(crash.Keep) > 0 || crash.At == api.Sector; trip == 2 && kept && after != done {
		t.Fatalf("kept, but %s; want %s", after, done)
	}
}

func toldNone(e api.Errno) string { return fmt.Sprintf("%d %d %q", e, 0, "") }

// P5.4: told is what is there while the power lasts, and the disk's error where it does not.
func TestSetTellsTheDisksError(t *testing.T) {
	for _, trip := range []int{1, 2, 3, 4} {
		d, c := laid(t, whole(1, "a"), nil)
		d.Trip(trip)
		want := api.OK
		if trip <= 2 {
			want = api.ErrDown
		}
		wantSet(t, c, "b", want)
		if d.Down() != (trip <= 2) {
			t.Error("the power", trip)
		}
		if dirty := len(d.Dirty()) > 0; dirty != (trip == 2) {
			t.Error("dirty", trip, d.Dirty())
		}
	}
}

// P5.5: four bytes one behind the other, ahead of the last twelve, that rot are seen. So is each byte of the last twelve alone.
func TestRotIsSeen(t *testing.T) {
	r := rand.New(rand.NewSource(1))
	for _, text := range []string{"", "a", string(bytes.Repeat([]byte("z"), api.MaxSlot))} {
		good := whole(6, text)
		for at := range api.Sector {
			for range 60 {
				wide := 4
				if at > 112 {
					wide = 1
				}
				bad := bytes.Clone(good)
				r.Read(bad[at : at+1+r.Intn(wide)])
				if bytes.Equal(good, bad) {
					continue
				}
				_, c := laid(t, bad, whole(5, "elder"))
				wantGet(t, c, "elder", 5)
				_, c = laid(t, nil, bad)
				wantNone(t, c, api.ErrRot)
			}
		}
	}
}

// plain is a cell by the chapter's words: of each sector what was set there, if it is whole.
type plain struct {
	mark [2]int // 0: not whole
	text [2]string
	zero [2]bool
}

func (p *plain) counts() int {
	switch {
	case p.mark[0] == 0 && p.mark[1] == 0:
		return -1
	case p.mark[0] >= p.mark[1]:
		return 0
	}
	return 1
}

func (p *plain) set(i, mark int, text string) {
	p.mark[i], p.text[i], p.zero[i] = mark, text, false
}

func (p *plain) next() (int, int) {
	at := p.counts()
	if at < 0 {
		return 0, 1
	}
	return 1 - at, p.mark[at] + 1
}

func (p *plain) want(t *testing.T, c *slot.Cell) {
	t.Helper()
	at := p.counts()
	switch {
	case at >= 0:
		wantGet(t, c, p.text[at], p.mark[at])
	case p.zero[0] && p.zero[1]:
		wantNone(t, c, api.ErrGone)
	default:
		wantNone(t, c, api.ErrRot)
	}
}

// P5.1 to P5.5: random steps against a plain cell.
func TestRandomSteps(t *testing.T) {
	for seed := range int64(40) {
		r := rand.New(rand.NewSource(seed))
		d, p := made(t, 6), &plain{zero: [2]bool{true, true}}
		base := r.Intn(5)
		c := opened(t, d, base)
		for range 200 {
			text := string(bytes.Repeat([]byte{byte(r.Intn(256))}, r.Intn(api.MaxSlot+1)))
			i, mark := p.next()
			switch r.Intn(8) {
			case 0: // a write of it goes, and is kept or lost
				kept := r.Intn(2) == 0
				d.Trip(2)
				wantSet(t, c, text, api.ErrDown)
				d.Crash(api.Crash{Torn: -1, Keep: []bool{kept}})
				wantNone(t, c, api.ErrStale)
				c = opened(t, d, base)
				if kept {
					p.set(i, mark, text)
				}
			case 1: // a sector rots, or is 0 again
				rot(d, base, p, r)
			case 2:
				wantSet(t, c, text+string(make([]byte, api.MaxSlot+1-len(text))), api.ErrLimit)
			default:
				wantSet(t, c, text, api.OK)
				p.set(i, mark, text)
			}
			p.want(t, c)
		}
	}
}

func rot(d *disk.Disk, base int, p *plain, r *rand.Rand) {
	i := r.Intn(2)
	rotten := p.mark[i] == 0 && !p.zero[i] // a second rot might mend it
	if rotten || r.Intn(2) == 0 {
		d.Rot(base+i, nil)
		p.mark[i], p.zero[i] = 0, true
		return
	}
	b, _ := d.Read(base + i)
	b[r.Intn(len(b))] ^= byte(1 + r.Intn(255))
	d.Rot(base+i, b)
	p.mark[i], p.zero[i] = 0, false
}
