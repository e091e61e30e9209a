package vault_test

import (
	"bytes"
	"fmt"
	"slices"
	"testing"

	"aumbry/api"
	"aumbry/digest"
	"aumbry/disk"
	"aumbry/journal"
	"aumbry/pack"
	"aumbry/record"
	"aumbry/vault"
)

// logOf is the journal on a disk, where the chapter lays it.
func logOf(t *testing.T, c api.Config, d *disk.Disk) *journal.Log {
	t.Helper()
	l, e := journal.Open(d, 0, api.Run{At: 2, N: c.Area}, api.Run{At: 2 + c.Area, N: c.Area})
	if e != api.OK {
		t.Fatal(e)
	}
	return l
}

// records is what stands in an appliance's journal, as facts.
func records(t *testing.T, c api.Config, v *vault.Vault) [][]api.Fact {
	t.Helper()
	d, _ := disk.New(c.Sectors)
	for i := range c.Sectors {
		b, e := v.Sector(i)
		if e != api.OK || d.Write(i, b) != api.OK {
			t.Fatal(e)
		}
	}
	var all [][]api.Fact
	for _, rec := range logOf(t, c, d).Records() {
		l, e := record.Take(rec)
		if e != api.OK {
			t.Fatal(e)
		}
		all = append(all, l)
	}
	return all
}

// wantRecords holds the last records against facts, by how they are told.
func wantRecords(t *testing.T, got [][]api.Fact, want ...[]api.Fact) {
	t.Helper()
	if len(got) < len(want) {
		t.Fatal("too few records", len(got), len(want))
	}
	for i, l := range got[len(got)-len(want):] {
		a, e := record.Put(l)
		b, f := record.Put(want[i])
		if e != api.OK || f != api.OK || !bytes.Equal(a, b) {
			t.Fatalf("record %d: %+v, not %+v", i, l, want[i])
		}
	}
}

// forged is an appliance that is not mounted, and in whose journal those records stand.
func forged(t *testing.T, c api.Config, recs ...[]byte) *vault.Vault {
	t.Helper()
	d, _ := disk.New(c.Sectors)
	l := logOf(t, c, d)
	for _, rec := range recs {
		if e := l.Append(rec); e != api.OK {
			t.Fatal(e)
		}
	}
	l.Flush()
	v := appliance(t, c)
	done(t, v, api.Op{Do: api.Fall})
	for i := range 2 + 2*c.Area {
		b, _ := d.Read(i)
		done(t, v, api.Op{Do: api.Rot, N: i, Bytes: b})
	}
	return v
}

func factsRec(t *testing.T, l ...api.Fact) []byte {
	t.Helper()
	b, e := record.Put(l)
	if e != api.OK {
		t.Fatal(l, e)
	}
	return b
}

func laid(bin, at, n int) api.Fact {
	return api.Fact{Kind: api.Laid, Place: api.Place{Bin: bin, Run: api.Run{At: at, N: n}}}
}

func freed(bin int) api.Fact { return api.Fact{Kind: api.Freed, Place: api.Place{Bin: bin}} }

func filed(name string, gen, time int, refs ...api.Ref) api.Fact {
	return api.Fact{Kind: api.Filed, Name: name, Gen: gen, Time: time, Refs: refs}
}

func ticked(n int) api.Fact { return api.Fact{Kind: api.Ticked, Time: n} }

// Words, P19.3, P19.4: what each operation's transaction says, and in which order; a mount renews all that is so.
func TestRecords(t *testing.T) {
	c := layout()
	v := appliance(t, c)
	wantRecords(t, records(t, c, v), []api.Fact{ticked(0)})
	done(t, v, api.Op{Do: api.Tick, N: 300})
	b := noise(1, 5000)
	put(t, v, "a", b)
	var l []api.Fact
	for _, p := range v.Places() {
		l = append(l, api.Fact{Kind: api.Laid, Place: p})
	}
	if len(l) < 3 {
		t.Fatal("few containers", len(l))
	}
	laidAll := slices.Clone(l)
	wantRecords(t, records(t, c, v), []api.Fact{ticked(0)}, []api.Fact{ticked(300)}, append(l, filed("a", 1, 300, v.Live()...)))
	live := v.Live()
	put(t, v, "a", nil)
	done(t, v, api.Op{Do: api.Snap, Shot: "s"})
	done(t, v, api.Op{Do: api.Delete, Name: "a"})
	done(t, v, api.Op{Do: api.Expire, Keep: api.Keep{Last: 1, Young: 2, Step: 3, Count: 4}})
	done(t, v, api.Op{Do: api.Snap, Shot: "r"})
	done(t, v, api.Op{Do: api.Unsnap, Shot: "r"})
	done(t, v, api.Op{Do: api.Tick, N: 0})
	snapped := api.Fact{Kind: api.Snapped, Name: "s", Time: 300, Held: []api.Held{{Name: "a", Gen: 2}}}
	dropped := api.Fact{Kind: api.Dropped, Name: "a", Gen: 2}
	wantRecords(t, records(t, c, v), []api.Fact{filed("a", 2, 300)}, []api.Fact{snapped}, []api.Fact{dropped},
		[]api.Fact{{Kind: api.Expired, Keep: api.Keep{Last: 1, Young: 2, Step: 3, Count: 4}}},
		[]api.Fact{{Kind: api.Snapped, Name: "r", Time: 300, Held: []api.Held{{Name: "a", Gen: 1}}}}, []api.Fact{{Kind: api.Unsnapped, Name: "r"}}, []api.Fact{ticked(300)})
	done(t, v, api.Op{Do: api.Fall, Crash: api.Crash{Torn: -1}})
	done(t, v, api.Op{Do: api.Mount})
	all := append(laidAll, ticked(300), filed("a", 1, 300, live...), filed("a", 2, 300), snapped, dropped)
	if got := records(t, c, v); len(got) != 1 {
		t.Fatal(len(got))
	} else {
		wantRecords(t, got, all)
	}
}

// P19.5: the transaction of a Clean: Laid, Moved, and Freed of the old ones, in the order of their shares.
func TestCleanRecords(t *testing.T) {
	c := layout()
	v := appliance(t, c)
	put(t, v, "a", noise(1, 40)) // each in a container of its own
	put(t, v, "b", noise(2, 40))
	n := begun(t, v, "c", noise(3, 200))
	put(t, v, "d", noise(4, 40))
	done(t, v, api.Op{Do: api.Commit, N: n})
	put(t, v, "c2", noise(3, 40)) // no chunk of this is another one's
	done(t, v, api.Op{Do: api.Delete, Name: "b"})
	done(t, v, api.Op{Do: api.Delete, Name: "d"})
	if a := done(t, v, api.Op{Do: api.Clean, N: 100}); a.N != 2 {
		t.Fatal(a)
	}
	wantRecords(t, records(t, c, v), []api.Fact{freed(1), freed(2)})
	if a := done(t, v, api.Op{Do: api.Clean, N: 100}); a.N != 0 {
		t.Fatal(a)
	}
	// Two containers that are partly alive are copied into one.
	v = appliance(t, c)
	first := begun(t, v, "x", noise(1, 100))
	done(t, v, api.Op{Do: api.Commit, N: first})
	put(t, v, "x2", noise(1, 100)[:70])
	put(t, v, "y", noise(2, 300))
	put(t, v, "y2", noise(2, 300)[:120])
	done(t, v, api.Op{Do: api.Delete, Name: "x"})
	done(t, v, api.Op{Do: api.Delete, Name: "y"})
	before, places := v.Live(), v.Places()
	a := done(t, v, api.Op{Do: api.Clean, N: 100})
	if a.N < 2 || a.N > len(places) {
		t.Fatal(a, places)
	}
	got := records(t, c, v)
	last := got[len(got)-1]
	if last[0].Kind != api.Laid || last[1].Kind != api.Moved || len(last) != 2+a.N || last[0].Place.Bin != len(places) {
		t.Fatalf("%+v", last)
	}
	slot := 0
	for _, f := range last[2:] {
		if f.Kind != api.Freed {
			t.Fatalf("%+v", f)
		}
		for _, r := range before {
			if r.Bin != f.Place.Bin {
				continue
			}
			want := api.Move{From: api.Spot{Bin: r.Bin, Slot: r.Slot}, To: api.Spot{Bin: len(places), Slot: slot}}
			if last[1].Moves[slot] != want {
				t.Fatal(last[1].Moves, want)
			}
			slot++
		}
	}
	if slot != len(last[1].Moves) {
		t.Fatal(slot, last[1].Moves)
	}
	wantRead(t, v, "x2", noise(1, 100)[:70])
	wantRead(t, v, "y2", noise(2, 300)[:120])
}

// Words: all that is so, in records of as many facts as go into each.
func TestManyRecords(t *testing.T) {
	c := layout()
	c.Area, c.Sectors = 600, 4096
	v := appliance(t, c)
	for i := range 64 {
		for range 6 {
			put(t, v, fmt.Sprintf("%032d", i), nil)
		}
	}
	remounted := func() [][]api.Fact {
		t.Helper()
		done(t, v, api.Op{Do: api.Fall, Crash: api.Crash{Torn: -1}})
		done(t, v, api.Op{Do: api.Mount})
		return records(t, c, v)
	}
	if l := remounted(); len(l) != 2 || len(l[0]) != 300 || len(l[1]) != 85 {
		t.Fatal(len(l))
	}
	for i := range 40 {
		put(t, v, fmt.Sprintf("%032d", i), noise(uint32(i), 1000))
	}
	l := remounted()
	var all []api.Fact
	for i, facts := range l {
		all = append(all, facts...)
		b := factsRec(t, facts...)
		if len(b) > api.MaxRec {
			t.Fatal("too long", len(b))
		}
		if i+1 < len(l) && len(facts) < 300 {
			// One more does not fit.
			if b := factsRec(t, append(slices.Clone(facts), l[i+1][0])...); len(b) <= api.MaxRec {
				t.Fatal("too short", i, len(b))
			}
		}
	}
	if len(l) < 3 || len(all) != len(v.Places())+1+64*6+40 || all[0].Kind != api.Laid || all[len(v.Places())].Kind != api.Ticked {
		t.Fatal(len(l), len(all), len(v.Places()))
	}
	wantRead(t, v, fmt.Sprintf("%032d", 39), noise(39, 1000))
}

// Words: a record may have MaxRec bytes, and no more.
func TestFullRecord(t *testing.T) {
	c := layout()
	c.Area, c.Sectors = 600, 4096
	refs := func(n int) []api.Ref {
		l := make([]api.Ref, n)
		for i := range l {
			l[i] = api.Ref{Sum: digest.Sum(noise(uint32(i), 9)), Len: 200, Bin: 3, Slot: i % 64}
		}
		return l
	}
	for _, over := range []int{-1, 0, 1} {
		// As many refs as it takes for three facts to have so many bytes; some of them have one byte more.
		facts := []api.Fact{ticked(0), filed("a", 1, 0, refs(256)...), filed("b", 1, 0), filed("c", 1, 0)}
		missing := func() int { return api.MaxRec + over - len(factsRec(t, facts[:3]...)) }
		facts[2].Refs = refs((missing() - 2) / 36)
		for i := range missing() {
			facts[1].Refs[i].Bin = 300
		}
		if n := len(factsRec(t, facts[:3]...)); n != api.MaxRec+over {
			t.Fatal(n, over)
		}
		v := forged(t, c, factsRec(t, facts[:2]...), factsRec(t, facts[2:]...))
		done(t, v, api.Op{Do: api.Mount})
		got := records(t, c, v)
		if over > 0 {
			wantRecords(t, got, facts[:2], facts[2:])
		} else if over == 0 {
			wantRecords(t, got, facts[:3], facts[3:])
		}
		if len(got) != 2 {
			t.Fatal(over, len(got))
		}
	}
}

// Words: what all that is so takes at most, where it takes many records: of many small facts, and of great ones.
func TestMuchJournal(t *testing.T) {
	c := layout()
	c.Area, c.Sectors = 600, 4096
	small, great := []api.Fact{ticked(0)}, []api.Fact{ticked(0)}
	for i := range 64 {
		for gen := range 20 {
			small = append(small, filed(fmt.Sprintf("%030d", i), gen+1, 0))
		}
		if i < 22 {
			l := make([]api.Ref, 64)
			for k := range l {
				l[k] = api.Ref{Sum: digest.Sum(noise(uint32(100*i+k), 9)), Len: 200, Bin: 300, Slot: k}
			}
			great = append(great, filed(fmt.Sprintf("%030d", i), 1, 0, l...))
		}
	}
	for _, facts := range [][]api.Fact{small, great} {
		p := newPlain(c)
		for _, f := range facts {
			if e := p.book.Apply(f); e != api.OK {
				t.Fatal(e)
			}
		}
		p.leaves = p.renewed()
		var recs [][]byte
		for l := range slices.Chunk(facts, 6) {
			recs = append(recs, factsRec(t, l...))
		}
		v := forged(t, c, recs...)
		done(t, v, api.Op{Do: api.Mount})
		n, e := 0, api.OK
		for e == api.OK {
			k := begun(t, v, fmt.Sprintf("%030d", n%60), nil)
			p.do(api.Op{Do: api.Begin, Name: fmt.Sprintf("%030d", n%60)})
			a, want := v.Do(api.Op{Do: api.Commit, N: k}), p.do(api.Op{Do: api.Commit, N: k})
			if !sameAnswer(a, want) {
				t.Fatal(n, a, want)
			}
			e = a.Errno
			n++
		}
		if n < 5 || e != api.ErrSpace {
			t.Fatal(n, e)
		}
	}
}

// P19.6: what can't be so is rot, and nothing is mounted.
func TestMountErrors(t *testing.T) {
	c := layout() // containers lie from 242 on
	cases := map[string][][]byte{
		"no record":                   {[]byte("no record")},
		"bytes behind":                {append(factsRec(t, ticked(1)), 0)},
		"in the journal":              {factsRec(t, laid(0, 241, 2))},
		"behind the disk":             {factsRec(t, laid(0, 899, 2))},
		"a number twice":              {factsRec(t, laid(0, 242, 2), laid(0, 250, 2))},
		"sectors twice":               {factsRec(t, laid(0, 242, 2)), factsRec(t, laid(1, 243, 2))},
		"free of none":                {factsRec(t, freed(3))},
		"free twice":                  {factsRec(t, laid(3, 242, 2), freed(3)), factsRec(t, freed(3))},
		"an earlier time":             {factsRec(t, ticked(5)), factsRec(t, ticked(4))},
		"a file that is later":        {factsRec(t, filed("a", 1, 1))},
		"a file twice":                {factsRec(t, filed("a", 1, 0)), factsRec(t, filed("a", 1, 0))},
		"a file that is not there":    {factsRec(t, api.Fact{Kind: api.Dropped, Name: "a", Gen: 1})},
		"no snapshot":                 {factsRec(t, api.Fact{Kind: api.Unsnapped, Name: "a"})},
		"the last fact":               {factsRec(t, ticked(1), laid(0, 242, 2), filed("a", 1, 0), freed(1))},
		"the first of more":           {factsRec(t, freed(0)), factsRec(t, ticked(1))},
		"a snapshot of what is not":   {factsRec(t, api.Fact{Kind: api.Snapped, Name: "s", Held: []api.Held{{Name: "a", Gen: 1}}})},
		"what is no fact, but a kind": {{1, 10, 0}},
	}
	for what, recs := range cases {
		v := forged(t, c, recs...)
		for range 2 {
			refuses(t, v, api.Op{Do: api.Mount}, api.ErrRot)
			if v.Up() || v.Used() != 0 || v.Places() != nil || v.Live() != nil || v.Entries() != 0 {
				t.Fatal(what, "is mounted")
			}
			refuses(t, v, api.Op{Do: api.List}, api.ErrDown)
		}
	}
	v := forged(t, c, factsRec(t, ticked(7), laid(3, 242, 4), laid(1, 320, 2), filed("a", 5, 6)), factsRec(t, freed(3), laid(2, 244, 64)), factsRec(t, laid(3, 242, 2)))
	done(t, v, api.Op{Do: api.Mount})
	want := []api.Place{{Bin: 1, Run: api.Run{At: 320, N: 2}}, {Bin: 2, Run: api.Run{At: 244, N: 64}}, {Bin: 3, Run: api.Run{At: 242, N: 2}}}
	if !slices.Equal(v.Places(), want) || v.Used() != 68 {
		t.Fatal(v.Places(), v.Used())
	}
	if a := done(t, v, api.Op{Do: api.List}); !slices.Equal(a.Names, []api.Held{{Name: "a", Gen: 5}}) {
		t.Fatal(a)
	}
	if n := put(t, v, "a", noise(1, 50)); n != 6 || len(v.Places()) != 4 || v.Places()[0].Bin != 0 {
		t.Fatal(n, v.Places())
	}
}

// P19.6: journal.Open's error, and Renew's; a cell that is empty is a journal without records.
func TestMountJournal(t *testing.T) {
	c := layout()
	v := appliance(t, c)
	put(t, v, "a", noise(1, 50))
	done(t, v, api.Op{Do: api.Fall, Crash: api.Crash{Torn: -1}})
	first, _ := v.Sector(0)
	second, _ := v.Sector(1)
	done(t, v, api.Op{Do: api.Rot, N: 0, Bytes: []byte("x")})
	done(t, v, api.Op{Do: api.Rot, N: 1, Bytes: []byte("y")})
	refuses(t, v, api.Op{Do: api.Mount}, api.ErrRot)
	done(t, v, api.Op{Do: api.Rot, N: 0, Bytes: first})
	done(t, v, api.Op{Do: api.Rot, N: 1, Bytes: second})
	// No epoch is left, as the greatest one stands there.
	kept, _ := v.Sector(2 + 2*c.Area - 1)
	done(t, v, api.Op{Do: api.Rot, N: 2 + 2*c.Area - 1, Bytes: bytes.Repeat([]byte{255}, 6)})
	refuses(t, v, api.Op{Do: api.Mount}, api.ErrLimit)
	if v.Up() {
		t.Fatal("up")
	}
	done(t, v, api.Op{Do: api.Rot, N: 2 + 2*c.Area - 1, Bytes: kept})
	done(t, v, api.Op{Do: api.Mount})
	wantRead(t, v, "a", noise(1, 50))
	done(t, v, api.Op{Do: api.Fall, Crash: api.Crash{Torn: -1}})
	done(t, v, api.Op{Do: api.Rot, N: 0})
	done(t, v, api.Op{Do: api.Rot, N: 1})
	done(t, v, api.Op{Do: api.Mount})
	if v.Used() != 0 || len(done(t, v, api.Op{Do: api.List}).Names) != 0 {
		t.Fatal("a new journal has nothing")
	}
}

// P19.6: all that is so may be more than its records were: it finds no room.
func TestMountWithoutRoom(t *testing.T) {
	c := layout()
	c.Area, c.Sectors = 8, 60
	var files, held []api.Fact
	var names []api.Held
	for i := range 9 {
		name := fmt.Sprintf("%032d", i)
		files = append(files, filed(name, 1, 0))
		names = append(names, api.Held{Name: name, Gen: 1})
	}
	held = append(held, api.Fact{Kind: api.Snapped, Name: "s", Held: names})
	all := append(append(files, held...), api.Fact{Kind: api.Expired, Keep: api.Keep{Step: 1}})
	v := forged(t, c, factsRec(t, all...))
	refuses(t, v, api.Op{Do: api.Mount}, api.ErrSpace)
	if v.Up() {
		t.Fatal("up")
	}
	v = forged(t, c, factsRec(t, all[:len(all)-1]...))
	done(t, v, api.Op{Do: api.Mount})
}

// Words: a transaction tells the first error that is met: here there is no epoch left to renew the journal by.
func TestNoEpoch(t *testing.T) {
	c := layout()
	c.Area, c.Sectors = 8, 60
	v := appliance(t, c)
	done(t, v, api.Op{Do: api.Rot, N: 3, Bytes: bytes.Repeat([]byte{255}, 6)}) // in the area that does not count
	n := 0
	for v.Do(api.Op{Do: api.Tick, N: 1}).Errno == api.OK {
		n++
	}
	if n != 7 {
		t.Fatal("the area had room for", n)
	}
	refuses(t, v, api.Op{Do: api.Tick, N: 1}, api.ErrLimit)
	refuses(t, v, api.Op{Do: api.Snap, Shot: "s"}, api.ErrLimit)
	k := begun(t, v, "a", noise(1, 50))
	refuses(t, v, api.Op{Do: api.Commit, N: k}, api.ErrLimit)
	if v.Used() != 0 || !v.Up() {
		t.Fatal(v.Used())
	}
	refuses(t, v, api.Op{Do: api.Tick, N: api.MaxNum - n + 1}, api.ErrArg)
	done(t, v, api.Op{Do: api.Rot, N: 3})
	done(t, v, api.Op{Do: api.Tick, N: api.MaxNum - n})
}

// P19.4, P1: refs that say another length, or a slot that is none, are rot, and a container with such chunks is left out of a Clean.
func TestForgedRefs(t *testing.T) {
	c := layout()
	k, _ := pack.New(0, 16)
	one, two := noise(1, 60), noise(2, 70)
	k.Add(one)
	k.Add(two)
	image := k.Bytes()
	sum := digest.Sum(one)
	v := forged(t, c, factsRec(t, laid(0, 300, len(image)/128),
		filed("right", 1, 0, api.Ref{Sum: sum, Len: 60}), filed("long", 1, 0, api.Ref{Sum: sum, Len: 61}), filed("short", 1, 0, api.Ref{Sum: sum, Len: 59}),
		filed("other", 1, 0, api.Ref{Sum: sum, Len: 60, Slot: 1}), filed("slot", 1, 0, api.Ref{Sum: sum, Len: 60, Slot: 2}), filed("bin", 1, 0, api.Ref{Sum: sum, Len: 60, Bin: 9}), filed("none", 1, 0)))
	for i := range len(image) / 128 {
		done(t, v, api.Op{Do: api.Rot, N: 300 + i, Bytes: image[i*128 : (i+1)*128]})
	}
	done(t, v, api.Op{Do: api.Mount})
	wantRead(t, v, "right", one)
	wantRead(t, v, "none", nil)
	for _, name := range []string{"long", "short", "other", "slot", "bin"} {
		refuses(t, v, api.Op{Do: api.Read, Name: name}, api.ErrRot)
		refuses(t, v, api.Op{Do: api.Range, Name: name, From: 1, Size: 1}, api.ErrRot)
		if a := done(t, v, api.Op{Do: api.Range, Name: name, From: 59, Size: 0}); len(a.Bytes) != 0 {
			t.Fatal(a)
		}
	}
	// The spots (0, 0), by its first file, (0, 1), (0, 2) and (9, 0).
	if a := done(t, v, api.Op{Do: api.Scrub}); a.N != 4 {
		t.Fatal(a)
	}
	// One that has a live chunk that is not there is left out, though its other ones are.
	done(t, v, api.Op{Do: api.Delete, Name: "other"})
	if a := done(t, v, api.Op{Do: api.Clean, N: 100}); a.N != 0 || len(v.Places()) != 1 {
		t.Fatal(a)
	}
	done(t, v, api.Op{Do: api.Delete, Name: "slot"})
	if a := done(t, v, api.Op{Do: api.Clean, N: 100}); a.N != 1 || len(v.Places()) != 1 || v.Places()[0].Bin != 1 {
		t.Fatal(a, v.Places())
	}
	wantRead(t, v, "right", one)
	refuses(t, v, api.Op{Do: api.Read, Name: "long"}, api.ErrRot)
}

// P1, P19.5: a container that is wider than the layout's may have more live chunks than fit into any packer: Clean ends, and leaves it out.
func TestWideContainer(t *testing.T) {
	c := layout()
	c.Tune.Wide = 4
	k, _ := pack.New(1, 64)
	var refs []api.Ref
	for i := range 20 {
		b := noise(uint32(i), 100)
		slot, _ := k.Add(b)
		refs = append(refs, api.Ref{Sum: digest.Sum(b), Len: 100, Bin: 1, Slot: slot})
	}
	image := k.Bytes()
	v := forged(t, c, factsRec(t, laid(1, 300, len(image)/128), filed("a", 1, 0, refs[:19]...)))
	for i := range len(image) / 128 {
		done(t, v, api.Op{Do: api.Rot, N: 300 + i, Bytes: image[i*128 : (i+1)*128]})
	}
	done(t, v, api.Op{Do: api.Mount})
	put(t, v, "b", noise(99, 90))
	put(t, v, "c", noise(98, 90))
	done(t, v, api.Op{Do: api.Delete, Name: "b"})
	if a := done(t, v, api.Op{Do: api.Clean, N: 100}); a.N != 1 || len(v.Places()) != 2 {
		t.Fatal(a, v.Places())
	}
	a := done(t, v, api.Op{Do: api.Read, Name: "a"})
	if len(a.Bytes) != 1900 || !bytes.HasPrefix(a.Bytes, noise(0, 100)) {
		t.Fatal(len(a.Bytes))
	}
}
