package twin_test

import (
	"bytes"
	"math/rand"
	"slices"
	"testing"

	"aumbry/api"
	"aumbry/twin"
	"aumbry/vault"
	"aumbry/wire"
)

// way is a source and a sink, and the notes between them, each of which may be lost, doubled, and overtaken.
type way struct {
	t        *testing.T
	r        *rand.Rand
	from, to *vault.Vault
	s        *twin.Source
	k        *twin.Sink
	room     int
	asked    [][]byte // on their way to the source
	told     [][]byte // and to the sink
	was      map[api.Held][][]byte
	came     int
}

func newWay(t *testing.T, seed int64, room int) *way {
	r := rand.New(rand.NewSource(seed))
	w := &way{t: t, r: r, room: room, was: map[api.Held][][]byte{}}
	w.from, w.to = appliance(t, layout()), appliance(t, layout())
	w.s = source(t, w.from, api.Cut{Min: 8 + r.Intn(30), Avg: 1 << r.Intn(6), Max: 60 + r.Intn(100)}, int(seed))
	w.k = sink(t, w.to, room)
	return w
}

// take takes any note from a row: it may stay there, to come again.
func (w *way) take(row *[][]byte) []byte {
	i := w.r.Intn(len(*row))
	b := (*row)[i]
	if w.r.Intn(4) > 0 {
		*row = slices.Delete(*row, i, i+1)
	}
	return b
}

// hear has the sink hear a note; what is done then is as the source's was.
func (w *way) hear(b []byte) {
	w.t.Helper()
	before := w.k.Done()
	if e := w.k.Hear(b); e != api.OK {
		w.t.Fatal("the sink hears", e)
	}
	if n := w.k.Kept(); n > w.room {
		w.t.Fatal("kept", n)
	}
	for _, h := range w.k.Done() {
		if slices.Contains(before, h) {
			continue
		}
		w.came++
		a := w.to.Do(api.Op{Do: api.Read, Name: h.Name})
		if a.Errno != api.OK || !slices.ContainsFunc(w.was[h], func(b []byte) bool { return bytes.Equal(b, a.Bytes) }) {
			w.t.Fatalf("%v came as what it never was, %d", h, a.Errno)
		}
		// What is old makes room for what is to come.
		done(w.t, w.to, api.Op{Do: api.Expire, Keep: api.Keep{Last: 1, Step: 1}})
		done(w.t, w.to, api.Op{Do: api.Clean, N: 100})
	}
}

func (w *way) answer(b []byte) []byte {
	w.t.Helper()
	told, e := w.s.Hear(b)
	if e != api.OK {
		w.t.Fatal("the source hears", e)
	}
	return told
}

// write has a file at the source have one generation more, like one that was there, or new.
func (w *way) write() {
	name := string(rune('a' + w.r.Intn(5)))
	b := noise(w.r.Int63(), w.r.Intn(400))
	if a := w.from.Do(api.Op{Do: api.Read, Name: name}); a.Errno == api.OK && w.r.Intn(3) > 0 {
		at := w.r.Intn(len(a.Bytes) + 1)
		b = slices.Concat(a.Bytes[:at], []byte("new"), a.Bytes[at:min(len(a.Bytes), 900)])
	}
	// So many generations are as many as may be, and more than the sink gets to see.
	if w.from.Do(api.Op{Do: api.Expire, Keep: api.Keep{Last: 3, Step: 1}}).Errno != api.OK {
		w.t.Fatal("expire")
	}
	h := held(name, put(w.t, w.from, name, b))
	w.was[h] = append(w.was[h], b)
	done(w.t, w.from, api.Op{Do: api.Clean, N: 60})
}

func (w *way) step(change bool) {
	w.t.Helper()
	switch n := w.r.Intn(20); {
	case n < 7:
		w.asked = append(w.asked, w.k.Next())
	case n < 13:
		if len(w.asked) > 0 {
			w.told = append(w.told, w.answer(w.take(&w.asked)))
		}
	case n < 19:
		if len(w.told) > 0 {
			w.hear(w.take(&w.told))
		}
	case change && w.r.Intn(3) == 0:
		w.write()
	case change && w.r.Intn(6) == 0:
		w.from.Do(api.Op{Do: api.Delete, Name: string(rune('a' + w.r.Intn(5)))})
	}
	// Some are lost, the old ones among them.
	for _, row := range []*[][]byte{&w.asked, &w.told} {
		for len(*row) > 6 {
			i := w.r.Intn(len(*row))
			*row = slices.Delete(*row, i, i+1)
		}
	}
}

// settle has each note answered, till all is done: told is how many were asked.
func (w *way) settle() int {
	w.t.Helper()
	for n := 1; n < 5000; n++ {
		w.hear(w.answer(w.k.Next()))
		if !w.k.Busy() && w.isDone() {
			return n
		}
	}
	w.t.Fatal("it never is done")
	return 0
}

// isDone: are the newest generations done?
func (w *way) isDone() bool {
	l := w.k.Done()
	for _, h := range done(w.t, w.from, api.Op{Do: api.List}).Names {
		if !slices.Contains(l, h) {
			return false
		}
	}
	return true
}

// partsOf is the parts that the source tells of a file.
func (w *way) partsOf(h api.Held) []api.Part {
	w.t.Helper()
	n, e := wire.Take(w.answer(bytesOf(w.t, askFile(h))))
	if e != api.OK {
		w.t.Fatal(e)
	}
	return n.Parts
}

// wantSame: the newest files of the source are the sink's.
func (w *way) wantSame() {
	w.t.Helper()
	for _, h := range done(w.t, w.from, api.Op{Do: api.List}).Names {
		wantRead(w.t, w.to, h.Name, done(w.t, w.from, api.Op{Do: api.Read, Name: h.Name}).Bytes)
	}
}

// P28.5, P28.6, P28.7 (B8, B4): notes that are lost, doubled and overtaken, while the source changes; then it changes no more, and all are answered.
func TestWay(t *testing.T) {
	came := 0
	for seed := range 60 {
		w := newWay(t, int64(seed), []int{1, 2, 8, 256}[seed%4])
		for range 2000 {
			w.step(true)
		}
		came += w.came
		w.settle()
	}
	if came < 300 {
		t.Error("came", came)
	}
}

// P28.5, P28.6 (B8): a source that does not change; no note is sure, but in the end all came.
func TestWayLossy(t *testing.T) {
	for seed := range 20 {
		w := newWay(t, int64(seed), 1+seed)
		for range 8 {
			w.write()
		}
		for n := 0; w.k.Busy() || !w.isDone(); n++ {
			if n > 50000 {
				t.Fatal("it never is done")
			}
			w.step(false)
		}
		w.wantSame()
		w.settle()
		w.wantSame()
	}
}

// P28.6 (B8): where each note is answered, no more are asked than there are files and unlike chunks, and two lists.
func TestWayShort(t *testing.T) {
	for seed := range 20 {
		w := newWay(t, int64(seed), 256)
		for range 8 {
			w.write()
		}
		most := 2
		chunks := map[api.Part]struct{}{}
		for _, h := range done(t, w.from, api.Op{Do: api.List}).Names {
			most++
			for _, p := range w.partsOf(h) {
				chunks[p] = struct{}{}
			}
		}
		if n := w.settle(); n > most+len(chunks) {
			t.Fatal(n, "were asked; want at most", most+len(chunks))
		}
		w.wantSame()
	}
}

// P28.6 (B8): what was left half done by lost notes comes, whatever is under way, and to come, when they are answered.
func TestWaySettles(t *testing.T) {
	for seed := range 40 {
		w := newWay(t, int64(seed), 1+seed%5)
		for range 5 {
			w.write()
		}
		for range w.r.Intn(150) {
			w.step(false)
		}
		// All that was under way is lost.
		w.asked, w.told = nil, nil
		w.settle()
		w.wantSame()
	}
}

// P28.6: as far as there is room: what finds none does not keep others from coming, and comes once there is room.
func TestWayRoom(t *testing.T) {
	w := newWay(t, 1, 256)
	c := layout()
	c.Quota = 1000
	w.to = appliance(t, c)
	w.k = sink(t, w.to, 256)
	put(t, w.from, "a", noise(1, 300))
	put(t, w.from, "b", noise(2, 800))
	put(t, w.from, "c", noise(3, 300))
	refused := 0
	for range 200 {
		if e := w.k.Hear(w.answer(w.k.Next())); e == api.ErrQuota {
			refused++
		} else if e != api.OK {
			t.Fatal(e)
		}
	}
	wantDone(t, w.k, held("a", 1), held("c", 1))
	if refused == 0 {
		t.Fatal("there was room")
	}
	done(t, w.to, api.Op{Do: api.Delete, Name: "a"})
	for range 50 {
		w.k.Hear(w.answer(w.k.Next()))
	}
	// It is not asked whether what is done is there still.
	wantDone(t, w.k, held("a", 1), held("c", 1))
	done(t, w.to, api.Op{Do: api.Delete, Name: "c"})
	for range 50 {
		w.k.Hear(w.answer(w.k.Next()))
	}
	wantDone(t, w.k, held("a", 1), held("b", 1), held("c", 1))
	wantRead(t, w.to, "b", noise(2, 800))
}

// P28.5: a file that becomes another one of the same generation, as all of it was deleted: what came is one of both, never a mixture.
func TestWayOfTheSameNumber(t *testing.T) {
	for seed := range 40 {
		w := newWay(t, int64(seed), 8)
		alike := noise(1, 400)
		for i := range 8 {
			b := slices.Concat(alike[:200], noise(int64(i+2), 100), alike[200:])
			w.from.Do(api.Op{Do: api.Delete, Name: "a"})
			h := held("a", put(t, w.from, "a", b))
			if h.Gen != 1 {
				t.Fatal(h)
			}
			w.was[h] = append(w.was[h], b)
			for range 12 {
				w.step(false)
			}
		}
		w.settle()
	}
}

// P28.5: a chain: what came to a sink's appliance goes on to another one from there.
func TestWayChain(t *testing.T) {
	w := newWay(t, 3, 8)
	for range 8 {
		w.write()
	}
	w.settle()
	x := newWay(t, 4, 8)
	x.from = w.to
	x.s = source(t, w.to, cut, 9)
	for _, h := range done(t, x.from, api.Op{Do: api.List}).Names {
		x.was[h] = [][]byte{done(t, x.from, api.Op{Do: api.Read, Name: h.Name}).Bytes}
	}
	x.settle()
	for _, h := range done(t, w.from, api.Op{Do: api.List}).Names {
		wantRead(t, x.to, h.Name, done(t, w.from, api.Op{Do: api.Read, Name: h.Name}).Bytes)
	}
}
