package disk_test

import (
	"bytes"
	"math/rand"
	"slices"
	"testing"

	"aumbry/api"
	"aumbry/disk"
)

// plain is a disk as the chapter's words have it: each sector's sure bytes, and those that were written.
type plain struct {
	sure, written [][]byte // written: nil, where it is not dirty
	trip, life    int
	down          bool
}

func newPlain(n int) *plain {
	p := &plain{written: make([][]byte, n)}
	for range n {
		p.sure = append(p.sure, sector(""))
	}
	return p
}

func (p *plain) fork() *plain {
	o := *p
	o.sure, o.written = nil, nil
	for i := range p.sure {
		o.sure = append(o.sure, bytes.Clone(p.sure[i]))
		o.written = append(o.written, bytes.Clone(p.written[i]))
	}
	return &o
}

func (p *plain) dirty() []int {
	var l []int
	for i, b := range p.written {
		if b != nil {
			l = append(l, i)
		}
	}
	return l
}

func (p *plain) trips() bool {
	if p.trip == 1 {
		p.trip, p.down = 0, true
		return true
	}
	if p.trip > 0 {
		p.trip--
	}
	return false
}

func (p *plain) fault(i int, b []byte, power bool) api.Errno {
	switch {
	case power && p.down:
		return api.ErrDown
	case i < 0 || i >= len(p.sure):
		return api.ErrArg
	case len(b) > api.Sector:
		return api.ErrLimit
	}
	return api.OK
}

func (p *plain) write(i int, b []byte) api.Errno {
	if e := p.fault(i, b, true); e != api.OK {
		return e
	}
	if p.trips() {
		return api.ErrDown
	}
	p.written[i] = sector(string(b))
	return api.OK
}

func (p *plain) flush() api.Errno {
	if p.down || p.trips() {
		return api.ErrDown
	}
	for _, i := range p.dirty() {
		p.sure[i], p.written[i] = p.written[i], nil
	}
	return api.OK
}

func (p *plain) rot(i int, b []byte) api.Errno {
	e := p.fault(i, b, false)
	if e == api.OK {
		p.sure[i], p.written[i] = sector(string(b)), nil
	}
	return e
}

func (p *plain) crash(c api.Crash) {
	for place, i := range p.dirty() {
		if place == c.Torn && c.At >= 0 && c.At <= api.Sector {
			copy(p.sure[i], p.written[i][:c.At])
		} else if place < len(c.Keep) && c.Keep[place] {
			p.sure[i] = p.written[i]
		}
		p.written[i] = nil
	}
	p.trip, p.down = 0, false
	p.life++
}

func (p *plain) want(t *testing.T, d *disk.Disk) {
	t.Helper()
	if d.Sectors() != len(p.sure) || d.Life() != p.life || d.Down() != p.down || !slices.Equal(d.Dirty(), p.dirty()) {
		t.Fatalf("%d sectors, life %d, down %t, dirty %v; want %d, %d, %t, %v", d.Sectors(), d.Life(), d.Down(), d.Dirty(), len(p.sure), p.life, p.down, p.dirty())
	}
	for i := range p.sure {
		b, e := d.Read(i)
		if p.down {
			wantErrno(t, "Read", e, api.ErrDown)
			continue
		}
		want := p.sure[i]
		if p.written[i] != nil {
			want = p.written[i]
		}
		if e != api.OK || !bytes.Equal(b, want) {
			t.Fatalf("the sector %d has %q, with %d; want %q", i, b, e, want)
		}
	}
}

func someBytes(r *rand.Rand) []byte {
	b := make([]byte, r.Intn(api.Sector+3))
	r.Read(b)
	return b
}

func someCrash(r *rand.Rand, n int) api.Crash {
	c := api.Crash{Torn: r.Intn(n+2) - 1, At: r.Intn(api.Sector+4) - 2}
	for range r.Intn(n + 2) {
		c.Keep = append(c.Keep, r.Intn(2) == 0)
	}
	return c
}

// P3.1 to P3.4, and P4 of the rules: whatever is done, disk and fork are what the chapter's words say.
func TestSteps(t *testing.T) {
	for seed := range int64(60) {
		r := rand.New(rand.NewSource(seed))
		n := 1 + r.Intn(6)
		d, p := made(t, n), newPlain(n)
		left, leftPlain := d.Fork(), p.fork()
		for range 150 {
			i, b := r.Intn(n+2)-1, someBytes(r)
			switch r.Intn(14) {
			case 0, 1:
				wantErrno(t, "Flush", d.Flush(), p.flush())
			case 2:
				c := someCrash(r, n)
				d.Crash(c)
				p.crash(c)
			case 3:
				wantErrno(t, "Rot", d.Rot(i, b), p.rot(i, b))
			case 4:
				if k := r.Intn(8); d.Trip(k) == api.OK {
					p.trip = k
				}
			case 5:
				left, leftPlain = d.Fork(), p.fork()
			case 6:
				d, left, p, leftPlain = left, d, leftPlain, p
			default:
				wantErrno(t, "Write", d.Write(i, b), p.write(i, b))
			}
			p.want(t, d)
			leftPlain.want(t, left)
		}
	}
}

// P3.5, P3.6: behind any crash a sector has what was sure, or what was written last, or the first bytes of this and the others of that.
func TestCrashLeavesOldOrNew(t *testing.T) {
	for seed := range int64(200) {
		r := rand.New(rand.NewSource(seed))
		n := 1 + r.Intn(6)
		d := made(t, n)
		var old, new [][]byte
		for i := range n {
			d.Write(i, someBytes(r))
			b, _ := d.Read(i)
			old = append(old, b)
		}
		flush(t, d)
		for range r.Intn(2 * n) {
			d.Write(r.Intn(n), someBytes(r))
		}
		dirty := d.Dirty()
		for i := range n {
			b, _ := d.Read(i)
			new = append(new, b)
		}
		c := someCrash(r, n)
		d.Crash(c)
		for i := range n {
			b, _ := d.Read(i)
			place := slices.Index(dirty, i)
			if place < 0 && !bytes.Equal(b, old[i]) {
				t.Fatal("what was flushed is gone")
			}
			torn := place >= 0 && place == c.Torn && c.At >= 0 && c.At <= api.Sector
			if torn && !bytes.Equal(b, append(bytes.Clone(new[i][:c.At]), old[i][c.At:]...)) {
				t.Fatal("torn otherwise")
			}
			if !torn && !bytes.Equal(b, old[i]) && !bytes.Equal(b, new[i]) {
				t.Fatal("neither sure nor written")
			}
		}
	}
}

// P3.7: a crash that keeps all is a Flush; a second crash changes no byte.
func TestCrashThatKeepsAll(t *testing.T) {
	for seed := range int64(100) {
		r := rand.New(rand.NewSource(seed))
		n := 1 + r.Intn(6)
		d := made(t, n)
		for range 2 * n {
			d.Write(r.Intn(n), someBytes(r))
			if r.Intn(4) == 0 {
				d.Flush()
			}
		}
		f := d.Fork()
		flush(t, d)
		all := slices.Repeat([]bool{true}, n)
		f.Crash(api.Crash{Keep: all, Torn: -1})
		for range 2 {
			for i := range n {
				a, _ := d.Read(i)
				b, _ := f.Read(i)
				if !bytes.Equal(a, b) {
					t.Fatalf("a flush leaves %q, a crash that keeps all %q", a, b)
				}
			}
			wantDirty(t, f)
			f.Crash(someCrash(r, n))
		}
	}
}
