package twin_test

import (
	"testing"

	"aumbry/api"
	"aumbry/twin"
	"aumbry/vault"
)

// refused: the last note has its file be whole, which the appliance refuses: that is told; the file is not under way any more, nor done, and no session is left.
func refused(t *testing.T, v *vault.Vault, k *twin.Sink, h api.Held, want api.Errno, chunks ...string) {
	t.Helper()
	before := k.Done()
	starts(t, k, h, chunks...)
	for i, c := range chunks[:len(chunks)-1] {
		hears(t, k, tellChunk(h, i, c))
	}
	last := len(chunks) - 1
	wantHear(t, k, tellChunk(h, last, chunks[last]), want)
	wantBusy(t, k, false)
	wantDone(t, k, before...)
	wantKept(t, k, len(chunks))
	asks(t, k, askList)
	// Heard again, it is of nothing that is under way.
	hears(t, k, tellChunk(h, last, chunks[last]), tellFile(h, chunks...), noFile(h))
	wantDone(t, k, before...)
}

// freeSessions is how many sessions may begin; all of these are aborted.
func freeSessions(v *vault.Vault) int {
	var l []int
	for {
		a := v.Do(api.Op{Do: api.Begin, Name: "x"})
		if a.Errno != api.OK {
			break
		}
		l = append(l, a.N)
	}
	for _, n := range l {
		v.Do(api.Op{Do: api.Abort, N: n})
	}
	return len(l)
}

// again: what was refused comes, without a chunk being asked for.
func again(t *testing.T, v *vault.Vault, k *twin.Sink, h api.Held, want string, chunks ...string) {
	t.Helper()
	starts(t, k, h, chunks...)
	wantBusy(t, k, false)
	wantDone(t, k, h)
	wantRead(t, v, h.Name, []byte(want))
}

// P28.4: there are as many sessions as may be.
func TestRefusedBegin(t *testing.T) {
	v := appliance(t, layout())
	k := sink(t, v, 9)
	var l []int
	for range api.MaxOpen {
		l = append(l, done(t, v, api.Op{Do: api.Begin, Name: "x"}).N)
	}
	refused(t, v, k, held("a", 2), api.ErrLimit, "x", "y")
	// None of those that are there is aborted.
	for _, n := range l {
		done(t, v, api.Op{Do: api.Abort, N: n})
	}
	again(t, v, k, held("a", 2), "xy", "x", "y")
}

// P28.4: a file of more bytes than may be.
func TestRefusedSize(t *testing.T) {
	v := appliance(t, layout())
	k := sink(t, v, 50)
	var chunks []string
	for i := range 17 {
		chunks = append(chunks, string(noise(int64(i), 482)))
	}
	for range 6 {
		k = sink(t, v, 50)
		refused(t, v, k, held("a", 2), api.ErrLimit, chunks...)
		if n := freeSessions(v); n != api.MaxOpen {
			t.Fatal(n, "sessions are free")
		}
	}
	h := held("b", 1)
	starts(t, k, h, chunks[:16]...)
	wantDone(t, k, h)
}

// P28.4: more bytes than the quota has left.
func TestRefusedQuota(t *testing.T) {
	c := layout()
	c.Quota = 1000
	v := appliance(t, c)
	put(t, v, "old", noise(1, 990))
	k := sink(t, v, 9)
	refused(t, v, k, held("a", 2), api.ErrQuota, "123456", "78901")
	if n := freeSessions(v); n != api.MaxOpen {
		t.Fatal(n, "sessions are free")
	}
	wantRead(t, v, "old", noise(1, 990))
	done(t, v, api.Op{Do: api.Delete, Name: "old"})
	again(t, v, k, held("a", 2), "12345678901", "123456", "78901")
}

// P28.4: as many generations as a file may have.
func TestRefusedGenerations(t *testing.T) {
	v := appliance(t, layout())
	for range api.MaxGens {
		put(t, v, "a", []byte("old"))
	}
	k := sink(t, v, 9)
	refused(t, v, k, held("a", 2), api.ErrLimit, "x", "y")
	if n := freeSessions(v); n != api.MaxOpen {
		t.Fatal(n, "sessions are free")
	}
	done(t, v, api.Op{Do: api.Delete, Name: "a", Gen: 7})
	again(t, v, k, held("a", 2), "xy", "x", "y")
}

// P28.4: no room on the disk; behind a cleaning there is.
func TestRefusedRoom(t *testing.T) {
	c := layout()
	c.Area = 30
	c.Sectors = 2 + 2*c.Area + 26
	v := appliance(t, c)
	k := sink(t, v, 9)
	put(t, v, "old", noise(1, 1200))
	chunks := []string{string(noise(2, 500)), string(noise(3, 500)), string(noise(4, 500))}
	refused(t, v, k, held("a", 2), api.ErrSpace, chunks...)
	if n := freeSessions(v); n != api.MaxOpen {
		t.Fatal(n, "sessions are free")
	}
	wantRead(t, v, "old", noise(1, 1200))
	done(t, v, api.Op{Do: api.Delete, Name: "old"})
	done(t, v, api.Op{Do: api.Clean, N: 100})
	again(t, v, k, held("a", 2), chunks[0]+chunks[1]+chunks[2], chunks...)
}

// P28.4: the power is gone, or goes while the file is written, wherever that is; what is told is the first error.
func TestRefusedPower(t *testing.T) {
	fall := api.Op{Do: api.Fall, Crash: api.Crash{Torn: -1}}
	v := appliance(t, layout())
	k := sink(t, v, 9)
	done(t, v, fall)
	refused(t, v, k, held("a", 2), api.ErrDown, "x", "y")
	done(t, v, api.Op{Do: api.Mount})
	again(t, v, k, held("a", 2), "xy", "x", "y")
	for trip := 1; ; trip++ {
		v := appliance(t, layout())
		put(t, v, "old", []byte("old"))
		k := sink(t, v, 9)
		h := held("a", 2)
		starts(t, k, h, "x", "y")
		hears(t, k, tellChunk(h, 0, "x"))
		done(t, v, api.Op{Do: api.Trip, N: trip})
		e := k.Hear(bytesOf(t, tellChunk(h, 1, "y")))
		wantBusy(t, k, false)
		if e == api.OK {
			wantDone(t, k, h)
			if trip < 4 {
				t.Fatal("the power did not go", trip)
			}
			return
		}
		if e != api.ErrDown {
			t.Fatal(trip, e)
		}
		wantDone(t, k)
		done(t, v, fall)
		done(t, v, api.Op{Do: api.Mount})
		wantRead(t, v, "old", []byte("old"))
		again(t, v, k, h, "xy", "x", "y")
	}
}

// P28.4: a file without bytes that is refused; a whole one that is refused without a chunk, which are all kept.
func TestRefusedAtOnce(t *testing.T) {
	v := appliance(t, layout())
	k := sink(t, v, 9)
	starts(t, k, held("z", 1), "x")
	hears(t, k, tellChunk(held("z", 1), 0, "x"))
	done(t, v, api.Op{Do: api.Fall, Crash: api.Crash{Torn: -1}})
	for _, n := range []api.Note{tellFile(held("a", 2)), tellFile(held("a", 2), "x", "x")} {
		hears(t, k, tellList(held("a", 2), held("b", 1)))
		asks(t, k, askFile(held("a", 2)))
		wantHear(t, k, n, api.ErrDown)
		wantBusy(t, k, true)
		// Those that are to come still come.
		asks(t, k, askFile(held("b", 1)))
		hears(t, k, noFile(held("b", 1)))
	}
	wantDone(t, k, held("z", 1))
}

// P28.4: an appliance that no call made refuses all.
func TestRefusedByNone(t *testing.T) {
	k := sink(t, &vault.Vault{}, 9)
	refused(t, nil, k, held("a", 2), api.ErrNil, "x", "y")
}
