package disk_test

import (
	"bytes"
	"math"
	"slices"
	"testing"

	"aumbry/api"
	"aumbry/disk"
)

// The signatures that the chapter lists.
var (
	_ func(int) (*disk.Disk, api.Errno)         = disk.New
	_ func(*disk.Disk) int                      = (*disk.Disk).Sectors
	_ func(*disk.Disk, int, []byte) api.Errno   = (*disk.Disk).Write
	_ func(*disk.Disk, int) ([]byte, api.Errno) = (*disk.Disk).Read
	_ func(*disk.Disk) api.Errno                = (*disk.Disk).Flush
	_ func(*disk.Disk) []int                    = (*disk.Disk).Dirty
	_ func(*disk.Disk, int) api.Errno           = (*disk.Disk).Trip
	_ func(*disk.Disk) bool                     = (*disk.Disk).Down
	_ func(*disk.Disk, api.Crash)               = (*disk.Disk).Crash
	_ func(*disk.Disk, int, []byte) api.Errno   = (*disk.Disk).Rot
	_ func(*disk.Disk) int                      = (*disk.Disk).Life
	_ func(*disk.Disk) *disk.Disk               = (*disk.Disk).Fork
)

func made(t *testing.T, sectors int) *disk.Disk {
	t.Helper()
	d, e := disk.New(sectors)
	if e != api.OK || d == nil {
		t.Fatalf("New(%d): %d", sectors, e)
	}
	return d
}

func wantErrno(t *testing.T, what string, got, want api.Errno) {
	t.Helper()
	if got != want {
		t.Errorf("%s answers %d, want %d", what, got, want)
	}
}

// sector is s with zeros behind it.
func sector(s string) []byte {
	return append([]byte(s), make([]byte, api.Sector-len(s))...)
}

func wantSector(t *testing.T, d *disk.Disk, i int, want string) {
	t.Helper()
	b, e := d.Read(i)
	if e != api.OK || !bytes.Equal(b, sector(want)) {
		t.Errorf("the sector %d has %q, with %d; want %q", i, b, e, want)
	}
}

func wantDirty(t *testing.T, d *disk.Disk, want ...int) {
	t.Helper()
	if got := d.Dirty(); !slices.Equal(got, want) {
		t.Errorf("dirty are %v, want %v", got, want)
	}
}

func write(t *testing.T, d *disk.Disk, i int, s string) {
	t.Helper()
	wantErrno(t, "Write", d.Write(i, []byte(s)), api.OK)
}

func flush(t *testing.T, d *disk.Disk) {
	t.Helper()
	wantErrno(t, "Flush", d.Flush(), api.OK)
}

// P3.1
func TestNew(t *testing.T) {
	for _, n := range []int{math.MinInt, -1, 0, api.MaxSectors + 1, math.MaxInt} {
		if d, e := disk.New(n); d != nil || e != api.ErrArg {
			t.Errorf("New(%d): %v, %d", n, d, e)
		}
	}
	for _, n := range []int{1, 2, 77, api.MaxSectors} {
		d := made(t, n)
		if d.Sectors() != n || d.Life() != 0 || d.Down() {
			t.Errorf("New(%d): %d sectors, life %d, down %t", n, d.Sectors(), d.Life(), d.Down())
		}
		wantDirty(t, d)
		for i := range n {
			wantSector(t, d, i, "")
		}
	}
}

// P3.1 to P3.4: of nil.
func TestNil(t *testing.T) {
	var d *disk.Disk
	if d.Sectors() != 0 || d.Life() != 0 || d.Down() || len(d.Dirty()) != 0 || d.Fork() != nil {
		t.Error("a nil disk tells something")
	}
	wantErrno(t, "Write", d.Write(-1, make([]byte, 129)), api.ErrNil)
	b, e := d.Read(-1)
	wantErrno(t, "Read", e, api.ErrNil)
	if len(b) != 0 {
		t.Error("bytes of nil")
	}
	wantErrno(t, "Flush", d.Flush(), api.ErrNil)
	wantErrno(t, "Trip", d.Trip(-1), api.ErrNil)
	wantErrno(t, "Rot", d.Rot(-1, make([]byte, 129)), api.ErrNil)
	d.Crash(api.Crash{Keep: []bool{true}})
}

// P1: a struct that no call made only does not panic.
func TestNotMade(t *testing.T) {
	d := new(disk.Disk)
	d.Trip(1)
	d.Write(0, nil)
	d.Rot(0, nil)
	d.Read(0)
	d.Flush()
	d.Crash(api.Crash{Keep: []bool{true}})
	f := d.Fork()
	f.Write(0, nil)
	f.Flush()
	if f.Sectors() != 0 || len(f.Dirty()) != 0 {
		t.Error("sectors of a disk that no call made")
	}
}

// P3.2
func TestWriteRead(t *testing.T) {
	d := made(t, 3)
	full := string(bytes.Repeat([]byte("f"), api.Sector))
	for _, s := range []string{"a", full, "short", "", full[:api.Sector-1], "\x00\xff"} {
		write(t, d, 1, s)
		wantSector(t, d, 1, s)
		wantDirty(t, d, 1)
		wantSector(t, d, 0, "")
		wantSector(t, d, 2, "")
	}
	wantErrno(t, "Write of nil", d.Write(2, nil), api.OK)
	wantDirty(t, d, 1, 2)
	write(t, d, 0, "zero")
	wantDirty(t, d, 0, 1, 2)
	wantSector(t, d, 0, "zero")
}

// P3.2: what is refused changes nothing.
func TestWriteRefused(t *testing.T) {
	d := made(t, 3)
	write(t, d, 2, "kept")
	long := make([]byte, api.Sector+1)
	for _, i := range []int{math.MinInt, -1, 3, 4, math.MaxInt} {
		wantErrno(t, "Write", d.Write(i, nil), api.ErrArg)
		wantErrno(t, "Write, too long", d.Write(i, long), api.ErrArg)
		b, e := d.Read(i)
		wantErrno(t, "Read", e, api.ErrArg)
		if len(b) != 0 {
			t.Error("bytes beside an error")
		}
	}
	wantErrno(t, "Write, too long", d.Write(2, long), api.ErrLimit)
	wantErrno(t, "Write, too long", d.Write(0, make([]byte, 1000)), api.ErrLimit)
	wantDirty(t, d, 2)
	wantSector(t, d, 2, "kept")
}

// P3.2
func TestFlush(t *testing.T) {
	d := made(t, 3)
	write(t, d, 2, "c")
	write(t, d, 0, "a")
	flush(t, d)
	wantDirty(t, d)
	wantSector(t, d, 0, "a")
	wantSector(t, d, 2, "c")
	write(t, d, 0, "b")
	wantDirty(t, d, 0)
	d.Crash(api.Crash{Torn: -1})
	wantSector(t, d, 0, "a")
	wantSector(t, d, 1, "")
	wantSector(t, d, 2, "c")
	write(t, d, 0, "a")
	wantDirty(t, d, 0)
	flush(t, d)
	flush(t, d)
	wantSector(t, d, 0, "a")
}

// P3.3: the n-th one is not done.
func TestTrip(t *testing.T) {
	for n := 1; n <= 5; n++ {
		d := made(t, 4)
		wantErrno(t, "Trip", d.Trip(n), api.OK)
		for k := 1; k < n; k++ {
			if k%2 == 0 {
				flush(t, d)
			} else {
				write(t, d, k, "x")
			}
			if d.Down() {
				t.Fatalf("down behind %d of %d", k, n)
			}
		}
		dirty := d.Dirty()
		if n%2 == 0 {
			wantErrno(t, "the Flush that trips", d.Flush(), api.ErrDown)
		} else {
			wantErrno(t, "the Write that trips", d.Write(0, []byte("lost")), api.ErrDown)
		}
		if !d.Down() {
			t.Fatalf("power behind the trip at %d", n)
		}
		wantDirty(t, d, dirty...)
		d.Crash(api.Crash{Keep: []bool{true, true, true, true}, Torn: -1})
		wantSector(t, d, 0, "")
	}
}

// P3.3: a flush that trips makes nothing sure.
func TestTripAtFlush(t *testing.T) {
	d := made(t, 2)
	write(t, d, 1, "x")
	d.Trip(1)
	wantErrno(t, "Flush", d.Flush(), api.ErrDown)
	d.Crash(api.Crash{Torn: -1})
	wantSector(t, d, 1, "")
}

// P3.3: only what would be OK counts.
func TestTripCountsWhatWouldBeOK(t *testing.T) {
	d := made(t, 2)
	d.Trip(2)
	wantErrno(t, "Write", d.Write(2, nil), api.ErrArg)
	wantErrno(t, "Write", d.Write(0, make([]byte, 129)), api.ErrLimit)
	d.Read(0)
	d.Dirty()
	d.Rot(0, []byte("r"))
	d.Fork().Write(0, nil)
	write(t, d, 0, "done")
	wantErrno(t, "Write", d.Write(2, nil), api.ErrArg)
	wantErrno(t, "Write", d.Write(0, make([]byte, 129)), api.ErrLimit)
	if d.Down() {
		t.Fatal("tripped by what was refused")
	}
	wantErrno(t, "Write", d.Write(0, nil), api.ErrDown)
}

// P3.3: a trip is armed anew, or off by 0; a negative one changes nothing.
func TestTripAgain(t *testing.T) {
	d := made(t, 2)
	d.Trip(1)
	wantErrno(t, "Trip", d.Trip(0), api.OK)
	write(t, d, 0, "a")
	d.Trip(1)
	wantErrno(t, "Trip", d.Trip(2), api.OK)
	write(t, d, 0, "b")
	wantErrno(t, "Trip", d.Trip(-1), api.ErrArg)
	wantErrno(t, "Trip", d.Trip(math.MinInt), api.ErrArg)
	wantErrno(t, "Write", d.Write(0, nil), api.ErrDown)

	d = made(t, 2)
	wantErrno(t, "Trip", d.Trip(math.MaxInt), api.OK)
	for range 10 {
		write(t, d, 0, "c")
		flush(t, d)
	}
}

// P3.2, P3.3: without power ErrDown is named ahead of what else is wrong, and nothing changes.
func TestDown(t *testing.T) {
	d := made(t, 4)
	write(t, d, 3, "sure")
	flush(t, d)
	write(t, d, 3, "written")
	write(t, d, 1, "one")
	d.Trip(1)
	d.Flush()
	long := make([]byte, api.Sector+1)
	for _, i := range []int{-1, 0, 1, 4} {
		wantErrno(t, "Write", d.Write(i, long), api.ErrDown)
		wantErrno(t, "Write", d.Write(i, nil), api.ErrDown)
		b, e := d.Read(i)
		wantErrno(t, "Read", e, api.ErrDown)
		if len(b) != 0 {
			t.Error("bytes beside an error")
		}
	}
	wantErrno(t, "Flush", d.Flush(), api.ErrDown)
	for _, n := range []int{-1, 0, 1} {
		wantErrno(t, "Trip", d.Trip(n), api.ErrDown)
	}
	wantDirty(t, d, 1, 3)
	if d.Sectors() != 4 || d.Life() != 0 || !d.Down() {
		t.Error("without power it is another disk")
	}
	d.Crash(api.Crash{Keep: []bool{false, true}, Torn: -1})
	if d.Down() || d.Life() != 1 {
		t.Error("no power behind a crash, or no other life")
	}
	wantDirty(t, d)
	wantSector(t, d, 1, "")
	wantSector(t, d, 3, "written")
	write(t, d, 0, "again")
}

// The chapter's example.
func TestExample(t *testing.T) {
	for _, c := range []struct {
		keep []bool
		want string
	}{{nil, ""}, {[]bool{false}, ""}, {[]bool{true}, "b"}} {
		d := made(t, 1)
		write(t, d, 0, "a")
		write(t, d, 0, "b")
		d.Crash(api.Crash{Keep: c.keep, Torn: -1})
		wantSector(t, d, 0, c.want)
	}
}

// P3.3: Keep goes by the places among the dirty ones; what it does not name is lost.
func TestCrashKeeps(t *testing.T) {
	for _, c := range []struct {
		keep []bool
		want [3]string
	}{
		{nil, [3]string{"", "", ""}},
		{[]bool{true}, [3]string{"w1", "", ""}},
		{[]bool{false, true}, [3]string{"", "w4", ""}},
		{[]bool{true, false, true}, [3]string{"w1", "", "w7"}},
		{[]bool{true, true, true, false, true, true, true, true, true, true}, [3]string{"w1", "w4", "w7"}},
	} {
		d := made(t, 9)
		write(t, d, 7, "w7")
		write(t, d, 1, "w1")
		write(t, d, 4, "w4")
		d.Crash(api.Crash{Keep: c.keep, Torn: -1})
		wantDirty(t, d)
		for k, i := range []int{1, 4, 7} {
			wantSector(t, d, i, c.want[k])
		}
		for _, i := range []int{0, 2, 3, 5, 6, 8} {
			wantSector(t, d, i, "")
		}
	}
}

// P3.3: the torn one has the first bytes of what was written, whatever Keep says of it.
func TestCrashTears(t *testing.T) {
	old := bytes.Repeat([]byte("o"), api.Sector)
	new := bytes.Repeat([]byte("n"), api.Sector)
	for _, keep := range []bool{false, true} {
		for _, at := range []int{math.MinInt, -1, 0, 1, 64, 127, 128, 129, math.MaxInt} {
			d := made(t, 5)
			for _, i := range []int{0, 2, 4} {
				d.Write(i, old)
			}
			flush(t, d)
			d.Write(4, new)
			d.Write(2, new)
			d.Crash(api.Crash{Keep: []bool{keep, keep}, Torn: 1, At: at})
			want := old
			if keep {
				want = new
			}
			if b, _ := d.Read(2); !bytes.Equal(b, want) {
				t.Errorf("at %d: the one that is not torn has %q", at, b)
			}
			if 0 <= at && at <= api.Sector {
				want = append(bytes.Clone(new[:at]), old[at:]...)
			}
			if b, _ := d.Read(4); !bytes.Equal(b, want) {
				t.Errorf("at %d: the torn one has %q", at, b)
			}
			if b, _ := d.Read(0); !bytes.Equal(b, old) {
				t.Errorf("at %d: the one that is not dirty has %q", at, b)
			}
		}
	}
}

// P3.3: a place that no dirty sector has tears none.
func TestCrashTearsNone(t *testing.T) {
	for _, torn := range []int{math.MinInt, -1, 2, 3, math.MaxInt} {
		d := made(t, 4)
		write(t, d, 2, "two")
		write(t, d, 3, "three")
		d.Crash(api.Crash{Keep: []bool{true, false}, Torn: torn, At: 1})
		wantSector(t, d, 2, "two")
		wantSector(t, d, 3, "")
	}
}

// P3.3: what a crash leaves is sure; the trip is off; each crash is another life.
func TestCrashIsSure(t *testing.T) {
	d := made(t, 3)
	write(t, d, 1, "first")
	d.Trip(1)
	d.Crash(api.Crash{Keep: []bool{true}, Torn: 0, At: 3})
	write(t, d, 1, "second")
	for life := 2; life < 5; life++ {
		d.Crash(api.Crash{Torn: -1})
		wantSector(t, d, 1, "fir")
		if d.Life() != life {
			t.Errorf("life %d, want %d", d.Life(), life)
		}
	}
	flush(t, d)
	wantSector(t, d, 1, "fir")
}

// P3.4
func TestRot(t *testing.T) {
	d := made(t, 4)
	for i := range 4 {
		write(t, d, i, "sure")
	}
	flush(t, d)
	write(t, d, 1, "one")
	write(t, d, 2, "two")
	write(t, d, 3, "three")
	wantErrno(t, "Rot", d.Rot(1, []byte("r")), api.OK)
	wantErrno(t, "Rot", d.Rot(0, nil), api.OK)
	wantDirty(t, d, 2, 3)
	wantSector(t, d, 0, "")
	wantSector(t, d, 1, "r")
	wantSector(t, d, 2, "two")
	long := make([]byte, api.Sector+1)
	for _, i := range []int{math.MinInt, -1, 4, math.MaxInt} {
		wantErrno(t, "Rot", d.Rot(i, long), api.ErrArg)
	}
	wantErrno(t, "Rot", d.Rot(3, long), api.ErrLimit)
	wantDirty(t, d, 2, 3)
	d.Crash(api.Crash{Keep: []bool{true, false}, Torn: -1})
	for i, want := range []string{"", "r", "two", "sure"} {
		wantSector(t, d, i, want)
	}
	if d.Life() != 1 || d.Rot(3, long[1:]) != api.OK {
		t.Error("a whole sector does not rot")
	}
	wantSector(t, d, 3, "")
}

// P3.4: without power too, and no trip counts it.
func TestRotDown(t *testing.T) {
	d := made(t, 2)
	d.Trip(1)
	wantErrno(t, "Rot", d.Rot(0, []byte("a")), api.OK)
	if d.Down() {
		t.Fatal("rot tripped")
	}
	wantErrno(t, "Write", d.Write(0, nil), api.ErrDown)
	wantErrno(t, "Rot", d.Rot(1, []byte("b")), api.OK)
	wantErrno(t, "Rot", d.Rot(2, nil), api.ErrArg)
	wantErrno(t, "Rot", d.Rot(0, make([]byte, 129)), api.ErrLimit)
	if !d.Down() {
		t.Error("rot gave power")
	}
	d.Crash(api.Crash{Torn: -1})
	wantSector(t, d, 0, "a")
	wantSector(t, d, 1, "b")
}

// P3 of the rules: nothing that is handed in is kept or changed, and answers are new memory.
func TestMemory(t *testing.T) {
	d := made(t, 3)
	whole := []byte("abcdef")
	keep := []bool{true, true, false}
	d.Write(0, whole[:3])
	d.Rot(1, whole[:3])
	if string(whole) != "abcdef" {
		t.Errorf("handed in is %q", whole)
	}
	copy(whole, "ABC")
	wantSector(t, d, 0, "abc")
	wantSector(t, d, 1, "abc")
	for i := range 2 {
		b, _ := d.Read(i)
		copy(b, "xyz")
		wantSector(t, d, i, "abc")
	}
	l := d.Dirty()
	l[0] = 2
	wantDirty(t, d, 0)
	d.Crash(api.Crash{Keep: keep[:1], Torn: -1})
	if !slices.Equal(keep, []bool{true, true, false}) {
		t.Error("Keep is changed")
	}
	b, _ := d.Read(0)
	copy(b, "xyz")
	wantSector(t, d, 0, "abc")
}

// P4 of the rules, P3.1
func TestFork(t *testing.T) {
	d := made(t, 3)
	write(t, d, 0, "sure")
	flush(t, d)
	d.Crash(api.Crash{Torn: -1})
	write(t, d, 1, "dirty")
	d.Trip(2)
	f := d.Fork()
	if f.Sectors() != 3 || f.Life() != 1 || f.Down() {
		t.Error("a fork is another disk")
	}
	wantDirty(t, f, 1)
	wantSector(t, f, 0, "sure")
	wantSector(t, f, 1, "dirty")

	write(t, d, 1, "other")
	wantErrno(t, "Write", d.Write(2, nil), api.ErrDown)
	d.Rot(0, []byte("rot"))
	d.Crash(api.Crash{Keep: []bool{true}, Torn: -1})
	wantSector(t, f, 0, "sure")
	wantSector(t, f, 1, "dirty")
	wantDirty(t, f, 1)
	if f.Down() || f.Life() != 1 {
		t.Error("a fork went down")
	}

	write(t, f, 2, "forked")
	wantErrno(t, "the fork's trip", f.Flush(), api.ErrDown)
	if g := f.Fork(); !g.Down() {
		t.Error("a fork of a disk without power has power")
	}
	if d.Down() || d.Life() != 2 {
		t.Error("a fork's trip takes power away")
	}
	wantSector(t, d, 0, "rot")
	wantSector(t, d, 1, "other")
	wantSector(t, d, 2, "")
	wantDirty(t, d)
}
