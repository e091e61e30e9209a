package vault_test

import (
	"bytes"
	"fmt"
	"slices"
	"testing"

	"aumbry/api"
	"aumbry/pack"
	"aumbry/vault"
)

// rotAt has the sector rot in which a slot's chunk begins.
func rotAt(t *testing.T, v *vault.Vault, r api.Ref) {
	t.Helper()
	p := placeOf(t, v, r.Bin)
	said, e := pack.Parse(container(t, v, p))
	if e != api.OK {
		t.Fatal(e)
	}
	done(t, v, api.Op{Do: api.Rot, N: p.Run.At + said.Slots[r.Slot].At/128, Bytes: []byte("rot")})
}

func placeOf(t *testing.T, v *vault.Vault, bin int) api.Place {
	t.Helper()
	for _, p := range v.Places() {
		if p.Bin == bin {
			return p
		}
	}
	t.Fatal("no container", bin)
	return api.Place{}
}

// Example 9, P19.4, P19.10 (B2): a chunk rots: its file can't be read there, others can; the same chunk again is packed anew.
func TestRot(t *testing.T) {
	v := appliance(t, layout())
	b := noise(1, 1500)
	put(t, v, "a", b)
	put(t, v, "b", noise(2, 1500))
	live := v.Live()
	if a := done(t, v, api.Op{Do: api.Scrub}); !sameAnswer(a, api.Answer{}) {
		t.Fatal(a)
	}
	rotAt(t, v, live[5])
	refuses(t, v, api.Op{Do: api.Read, Name: "a"}, api.ErrRot)
	wantRead(t, v, "b", noise(2, 1500))
	n := done(t, v, api.Op{Do: api.Scrub}).N
	if n < 1 || n > 5 {
		t.Fatal("scrubbed", n)
	}
	// Only the pieces whose chunks are in that sector can't be told.
	at, bad := 0, 0
	for _, r := range live[:slices.IndexFunc(live, func(r api.Ref) bool { return r.Bin > 0 })] {
		for _, o := range []api.Op{{Do: api.Range, Name: "a", From: at, Size: 1}, {Do: api.Range, Name: "a", From: at + r.Len - 1, Size: 1}, {Do: api.Range, Name: "a", From: at, Size: r.Len}} {
			if a := v.Do(o); a.Errno == api.ErrRot {
				bad++
			} else if a.Errno != api.OK || !bytes.Equal(a.Bytes, b[o.From:o.From+o.Size]) {
				t.Fatal(o, a)
			}
		}
		at += r.Len
	}
	if bad != 3*n {
		t.Fatal(bad, n)
	}
	refuses(t, v, api.Op{Do: api.Range, Name: "a", From: 1501}, api.ErrArg)
	if a := done(t, v, api.Op{Do: api.Stat, Name: "a"}); a.N != 1500 {
		t.Fatal(a)
	}
	used := v.Used()
	put(t, v, "c", b)
	if more := v.Used() - used; more < 2 || more > 6 {
		t.Fatal("packed anew", more)
	}
	wantRead(t, v, "c", b)
	refuses(t, v, api.Op{Do: api.Read, Name: "a"}, api.ErrRot)
	done(t, v, api.Op{Do: api.Delete, Name: "a"})
	if a := done(t, v, api.Op{Do: api.Scrub}); a.N != 0 {
		t.Fatal("what no file has is not scrubbed", a)
	}
}

// P19.4: Scrub counts each spot once: of files, and of sessions, but not what is in a packer.
func TestScrub(t *testing.T) {
	c := layout()
	c.Tune.Seg = 1
	v := appliance(t, c)
	b := noise(1, 600)
	put(t, v, "a", b)
	put(t, v, "b", b)
	done(t, v, api.Op{Do: api.Snap, Shot: "s"})
	all := len(v.Live())
	begun(t, v, "c", b)
	begun(t, v, "d", b)
	place := v.Places()[0].Run
	head, _ := v.Sector(place.At)
	done(t, v, api.Op{Do: api.Rot, N: place.At})
	if a := done(t, v, api.Op{Do: api.Scrub}); a.N != all {
		t.Fatal("each once", a, all)
	}
	done(t, v, api.Op{Do: api.Delete, Name: "a"})
	done(t, v, api.Op{Do: api.Delete, Name: "b"})
	if a := done(t, v, api.Op{Do: api.Scrub}); a.N != all {
		t.Fatal("the snapshot's", a, all)
	}
	done(t, v, api.Op{Do: api.Unsnap, Shot: "s"})
	n := done(t, v, api.Op{Do: api.Scrub}).N
	if n < all-1 || n > all {
		t.Fatal("the sessions', but for the last chunk, which has not ended", n, all)
	}
	done(t, v, api.Op{Do: api.Abort, N: 3})
	if a := done(t, v, api.Op{Do: api.Scrub}); a.N != n {
		t.Fatal("of the other session", a, n)
	}
	done(t, v, api.Op{Do: api.Rot, N: place.At, Bytes: head})
	if a := done(t, v, api.Op{Do: api.Scrub}); a.N != 0 {
		t.Fatal("mended", a)
	}
	// A session's own container, which the journal does not know; what is in its packer can't rot.
	used := v.Used()
	k := begun(t, v, "e", noise(7, 2500))
	if v.Used() == used {
		t.Fatal("nothing is sealed")
	}
	if a := done(t, v, api.Op{Do: api.Scrub}); a.N != 0 {
		t.Fatal(a)
	}
	at := place.At + place.N // the first sectors that were free
	for i := range v.Used() - used {
		done(t, v, api.Op{Do: api.Rot, N: at + i})
	}
	if a := done(t, v, api.Op{Do: api.Scrub}); a.N < 15 {
		t.Fatal("a container of a session", a)
	}
	done(t, v, api.Op{Do: api.Commit, N: k})
	refuses(t, v, api.Op{Do: api.Read, Name: "e"}, api.ErrRot)
}

// P19.4, P19.10: a container that came to be another one, whole and of the same number, has other chunks: rot.
func TestAnotherContainer(t *testing.T) {
	v := appliance(t, layout())
	b := noise(1, 150)
	put(t, v, "a", b)
	live, place := v.Live(), v.Places()[0]
	k, _ := pack.New(place.Bin, 16)
	for i, r := range live {
		k.Add(noise(uint32(50+i), r.Len))
	}
	image := k.Bytes()
	if len(image) != 128*place.Run.N {
		t.Fatal("another size")
	}
	for i := range place.Run.N {
		done(t, v, api.Op{Do: api.Rot, N: place.Run.At + i, Bytes: image[i*128 : (i+1)*128]})
	}
	refuses(t, v, api.Op{Do: api.Read, Name: "a"}, api.ErrRot)
	if a := done(t, v, api.Op{Do: api.Scrub}); a.N != len(live) {
		t.Fatal(a, len(live))
	}
	// The same bytes again are not taken for what lies there.
	put(t, v, "b", b)
	wantRead(t, v, "b", b)
	if len(v.Places()) != 2 {
		t.Fatal(v.Places())
	}
	// A container of another number is none.
	k, _ = pack.New(place.Bin+1, 16)
	for _, r := range live {
		k.Add(b[:r.Len])
	}
	image = k.Bytes()
	for i := range place.Run.N {
		done(t, v, api.Op{Do: api.Rot, N: place.Run.At + i, Bytes: image[i*128 : (i+1)*128]})
	}
	refuses(t, v, api.Op{Do: api.Read, Name: "a"}, api.ErrRot)
	if a := done(t, v, api.Op{Do: api.Clean, N: 100}); a.N != 0 {
		t.Fatal("a container without a head is left", a)
	}
}

// P19.4, P19.6: Rebuild, and a mount, learn the containers whose heads can be read, and nothing else.
func TestRebuild(t *testing.T) {
	c := layout()
	v := appliance(t, c)
	empty := v.Entries()
	for i := range 3 {
		put(t, v, fmt.Sprint("f", i), noise(uint32(i), 100))
	}
	full, each := v.Entries(), map[int]int{}
	for _, r := range v.Live() {
		each[r.Bin]++
	}
	// Each chunk is a hook, and is in the cache.
	if full != empty+2*len(v.Live()) {
		t.Fatal(full, empty, len(v.Live()))
	}
	done(t, v, api.Op{Do: api.Rebuild})
	if v.Entries() != full {
		t.Fatal(v.Entries(), full)
	}
	head, _ := v.Sector(v.Places()[1].Run.At)
	done(t, v, api.Op{Do: api.Rot, N: v.Places()[1].Run.At})
	if v.Entries() != full {
		t.Fatal("what rots is known till it is looked at")
	}
	done(t, v, api.Op{Do: api.Rebuild})
	if v.Entries() != full-2*each[1] {
		t.Fatal(v.Entries(), full, each)
	}
	done(t, v, api.Op{Do: api.Fall, Crash: api.Crash{Torn: -1}})
	done(t, v, api.Op{Do: api.Mount})
	if v.Entries() != full-2*each[1] || len(v.Places()) != 3 || v.Used() == 0 {
		t.Fatal(v.Entries(), v.Places())
	}
	refuses(t, v, api.Op{Do: api.Read, Name: "f1"}, api.ErrRot)
	wantRead(t, v, "f0", noise(0, 100))
	used := v.Used()
	put(t, v, "again", noise(0, 100))
	put(t, v, "again", noise(2, 100))
	if v.Used() != used {
		t.Fatal("not found again")
	}
	done(t, v, api.Op{Do: api.Rot, N: v.Places()[1].Run.At, Bytes: head})
	done(t, v, api.Op{Do: api.Rebuild})
	if v.Entries() != full {
		t.Fatal(v.Entries(), full)
	}
	wantRead(t, v, "f1", noise(1, 100))
	// A session goes on, whatever the index knows.
	n := begun(t, v, "open", noise(9, 900))
	done(t, v, api.Op{Do: api.Rebuild})
	done(t, v, api.Op{Do: api.Write, N: n, Bytes: noise(0, 100)})
	done(t, v, api.Op{Do: api.Commit, N: n})
	wantRead(t, v, "open", slices.Concat(noise(9, 900), noise(0, 100)))
}

// P19.3: a container of a session whose head rots ahead of the commit is known to the journal, and not to the index.
func TestRotAheadOfCommit(t *testing.T) {
	c := layout()
	c.Tune.Seg = 1
	v := appliance(t, c)
	n := begun(t, v, "a", noise(1, 2500))
	if v.Used() == 0 {
		t.Fatal("nothing is sealed")
	}
	done(t, v, api.Op{Do: api.Rot, N: 2 + 2*c.Area, Bytes: []byte("BIN")})
	done(t, v, api.Op{Do: api.Commit, N: n})
	each := map[int]int{}
	for _, r := range v.Live() {
		each[r.Bin]++
	}
	want := 1 << 14
	for bin, n := range each {
		if bin > 0 {
			want += n + min(n, api.MaxHooks)
		}
	}
	if len(v.Places()) != len(each) || len(each) < 2 || v.Entries() != want {
		t.Fatal(v.Places(), each, v.Entries(), want)
	}
}
