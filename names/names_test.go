package names_test

import (
	"fmt"
	"math"
	"slices"
	"strings"
	"testing"

	"aumbry/api"
	"aumbry/names"
)

// The signatures that the chapter lists.
var (
	_ func() *names.Book                                         = names.New
	_ func(*names.Book, api.Fact) api.Errno                      = (*names.Book).Check
	_ func(*names.Book, api.Fact) api.Errno                      = (*names.Book).Apply
	_ func(*names.Book) []api.File                               = (*names.Book).Files
	_ func(*names.Book) []api.Shot                               = (*names.Book).Shots
	_ func(*names.Book) int                                      = (*names.Book).Now
	_ func(*names.Book, string, int) (api.Version, api.Errno)    = (*names.Book).Get
	_ func(*names.Book, string, string) (api.Version, api.Errno) = (*names.Book).Via
	_ func(*names.Book) []api.Held                               = (*names.Book).Newest
	_ func(*names.Book, string) int                              = (*names.Book).Next
	_ func(*names.Book, api.Keep) ([]api.Held, api.Errno)        = (*names.Book).Expire
	_ func(*names.Book) []api.Ref                                = (*names.Book).Live
	_ func(*names.Book) []api.Fact                               = (*names.Book).Facts
	_ func(*names.Book) *names.Book                              = (*names.Book).Fork
)

func ref(x byte, bin, slot int) api.Ref {
	return api.Ref{Sum: api.Sum{x, 31: x}, Len: 1 + int(x), Bin: bin, Slot: slot}
}

func refs(l ...byte) []api.Ref {
	var out []api.Ref
	for _, x := range l {
		out = append(out, ref(x, int(x)/8, int(x)%8))
	}
	return out
}

func ticked(time int) api.Fact { return api.Fact{Kind: api.Ticked, Time: time} }

func filed(name string, gen, time int, l ...byte) api.Fact {
	return api.Fact{Kind: api.Filed, Name: name, Gen: gen, Time: time, Refs: refs(l...)}
}

func dropped(name string, gen int) api.Fact {
	return api.Fact{Kind: api.Dropped, Name: name, Gen: gen}
}

func snapped(name string, time int, l ...api.Held) api.Fact {
	return api.Fact{Kind: api.Snapped, Name: name, Time: time, Held: l}
}

func unsnapped(name string) api.Fact { return api.Fact{Kind: api.Unsnapped, Name: name} }

func moved(l ...api.Move) api.Fact { return api.Fact{Kind: api.Moved, Moves: l} }

func expired(k api.Keep) api.Fact { return api.Fact{Kind: api.Expired, Keep: k} }

func held(name string, gen int) api.Held { return api.Held{Name: name, Gen: gen} }

func move(fromBin, fromSlot, toBin, toSlot int) api.Move {
	return api.Move{From: api.Spot{Bin: fromBin, Slot: fromSlot}, To: api.Spot{Bin: toBin, Slot: toSlot}}
}

// pair is a book, and the plain one that it is held against.
type pair struct {
	b *names.Book
	p *plain
}

// with is a pair to which facts were applied, which are right.
func with(t *testing.T, l ...api.Fact) pair {
	t.Helper()
	x := pair{names.New(), &plain{}}
	x.do(t, l...)
	return x
}

// do applies facts that are right.
func (x pair) do(t *testing.T, l ...api.Fact) {
	t.Helper()
	for _, f := range l {
		if e := x.b.Check(f); e != api.OK {
			t.Fatalf("Check(%+v): %d", f, e)
		}
		if e := x.b.Apply(f); e != api.OK || x.p.apply(f) != api.OK {
			t.Fatalf("Apply(%+v): %d; want %d", f, e, x.p.check(f))
		}
	}
	x.like(t)
}

// refuses: Check and Apply tell an error, and nothing is changed (P16.6).
func (x pair) refuses(t *testing.T, f api.Fact, want api.Errno) {
	t.Helper()
	if e := x.b.Check(f); e != want {
		t.Errorf("Check(%+v): %d, want %d", f, e, want)
	}
	if e := x.b.Apply(f); e != want {
		t.Errorf("Apply(%+v): %d, want %d", f, e, want)
	}
	x.like(t)
}

func sameVersion(a, b api.Version) bool {
	return a.Gen == b.Gen && a.Time == b.Time && a.Gone == b.Gone && slices.Equal(a.Refs, b.Refs)
}

func sameFile(a, b api.File) bool {
	return a.Name == b.Name && slices.EqualFunc(a.Versions, b.Versions, sameVersion)
}

func sameShot(a, b api.Shot) bool {
	return a.Name == b.Name && a.Time == b.Time && slices.Equal(a.Held, b.Held)
}

func sameFact(a, b api.Fact) bool {
	return a.Kind == b.Kind && a.Place == b.Place && a.Name == b.Name && a.Gen == b.Gen && a.Time == b.Time &&
		slices.Equal(a.Refs, b.Refs) && slices.Equal(a.Held, b.Held) && slices.Equal(a.Moves, b.Moves) && a.Keep == b.Keep
}

// like: a book tells what the plain one does.
func (x pair) like(t *testing.T) {
	t.Helper()
	if got, want := x.b.Files(), x.p.told(); !slices.EqualFunc(got, want, sameFile) {
		t.Fatalf("Files: %+v; want %+v", got, want)
	}
	if got, want := x.b.Shots(), x.p.toldShots(); !slices.EqualFunc(got, want, sameShot) {
		t.Fatalf("Shots: %+v; want %+v", got, want)
	}
	if x.b.Now() != x.p.now {
		t.Fatalf("Now: %d; want %d", x.b.Now(), x.p.now)
	}
}

// likeAll: it tells all that can be asked as the plain one does.
func (x pair) likeAll(t *testing.T) {
	t.Helper()
	x.like(t)
	if got, want := x.b.Newest(), x.p.newest(); !slices.Equal(got, want) {
		t.Fatalf("Newest: %v; want %v", got, want)
	}
	if got, want := x.b.Live(), x.p.live(); !slices.Equal(got, want) {
		t.Fatalf("Live: %v; want %v", got, want)
	}
	if got, want := x.b.Facts(), x.p.facts(); !slices.EqualFunc(got, want, sameFact) {
		t.Fatalf("Facts: %+v; want %+v", got, want)
	}
	for _, name := range append(x.p.files(), "", "none", "\xff") {
		if got := x.b.Next(name); got != x.p.next(name) {
			t.Fatalf("Next(%q): %d; want %d", name, got, x.p.next(name))
		}
		for gen := -1; gen <= x.p.next(name) && gen < 50; gen++ {
			x.gets(t, name, gen)
		}
		for _, s := range append(x.p.shots, api.Shot{}, api.Shot{Name: name}) {
			v, e := x.b.Via(s.Name, name)
			want, wantE := x.p.via(s.Name, name)
			if e != wantE || !sameVersion(v, want) {
				t.Fatalf("Via(%q, %q): %+v, %d; want %+v, %d", s.Name, name, v, e, want, wantE)
			}
		}
	}
}

func (x pair) gets(t *testing.T, name string, gen int) {
	t.Helper()
	v, e := x.b.Get(name, gen)
	if want, wantE := x.p.get(name, gen); e != wantE || !sameVersion(v, want) {
		t.Fatalf("Get(%q, %d): %+v, %d; want %+v, %d", name, gen, v, e, want, wantE)
	}
}

// wantGens: a file has these generations; those below 0 are gone.
func wantGens(t *testing.T, b *names.Book, name string, want ...int) {
	t.Helper()
	var got []int
	for _, f := range b.Files() {
		if f.Name != name {
			continue
		}
		for _, v := range f.Versions {
			if v.Gone {
				v.Gen = -v.Gen
			}
			got = append(got, v.Gen)
		}
		if len(got) == 0 {
			t.Errorf("%s is there without generations", name)
		}
	}
	if !slices.Equal(got, want) {
		t.Errorf("%s has %v, want %v", name, got, want)
	}
}

// P16.1: a new book, and its Facts.
func TestNew(t *testing.T) {
	x := with(t)
	x.likeAll(t)
	if len(x.b.Files()) != 0 || len(x.b.Shots()) != 0 || x.b.Now() != 0 || len(x.b.Newest()) != 0 || len(x.b.Live()) != 0 || x.b.Next("a") != 1 {
		t.Error("a new book is not empty")
	}
	if l := x.b.Facts(); len(l) != 1 || !sameFact(l[0], ticked(0)) {
		t.Error("Facts", l)
	}
	if l, e := x.b.Expire(api.Keep{Step: 1}); len(l) != 0 || e != api.OK {
		t.Error("Expire", l, e)
	}
}

// The chapter's example.
func TestExample(t *testing.T) {
	x := with(t, filed("a", 1, 0), filed("a", 2, 0), snapped("s", 0, held("a", 2)), dropped("a", 2))
	if v, e := x.b.Get("a", 0); e != api.OK || v.Gen != 1 {
		t.Error("Get", v, e)
	}
	if v, e := x.b.Via("s", "a"); e != api.OK || v.Gen != 2 || !v.Gone {
		t.Error("Via", v, e)
	}
	wantGens(t, x.b, "a", 1, -2)
	x.do(t, unsnapped("s"))
	wantGens(t, x.b, "a", 1)
	x.likeAll(t)
}

// P16.1, P1: of nil, and of one that no call made.
func TestNil(t *testing.T) {
	for _, b := range []*names.Book{nil, new(names.Book)} {
		for _, f := range []api.Fact{{}, ticked(1), filed("a", 1, 0), dropped("a", 1), snapped("s", 0), unsnapped("s"), moved(move(0, 0, 1, 1)), expired(api.Keep{Step: 1}), {Kind: api.Laid, Place: api.Place{Run: api.Run{N: 2}}}} {
			if b.Check(f) != api.ErrNil || b.Apply(f) != api.ErrNil {
				t.Error(f.Kind, b.Check(f), b.Apply(f))
			}
		}
		if len(b.Files()) != 0 || len(b.Shots()) != 0 || b.Now() != 0 || len(b.Newest()) != 0 || b.Next("a") != 0 || len(b.Live()) != 0 || len(b.Facts()) != 0 || b.Fork() != nil {
			t.Error("something is told")
		}
		for _, gen := range []int{-1, 0, 1, math.MaxInt} {
			if v, e := b.Get("a", gen); e != api.ErrNil || !sameVersion(v, api.Version{}) {
				t.Error("Get", v, e)
			}
		}
		if v, e := b.Via("s", "a"); e != api.ErrNil || !sameVersion(v, api.Version{}) {
			t.Error("Via", v, e)
		}
		for _, k := range []api.Keep{{}, {Step: 1}, {Last: -1}} {
			if l, e := b.Expire(k); len(l) != 0 || e != api.ErrNil {
				t.Error("Expire", l, e)
			}
		}
	}
}

// P16.1: record.Check's error is told first, whatever else is wrong, of each kind.
func TestRecordsError(t *testing.T) {
	x := with(t, ticked(10), filed("a", 3, 5, 1, 2), snapped("s", 7, held("a", 3)))
	long := strings.Repeat("n", 33)
	for _, y := range []struct {
		f    api.Fact
		want api.Errno
	}{
		{api.Fact{}, api.ErrForm}, {api.Fact{Kind: 10}, api.ErrForm}, {api.Fact{Kind: -1}, api.ErrForm},
		{api.Fact{Kind: api.Ticked, Time: 3, Gen: 1}, api.ErrForm}, {ticked(-1), api.ErrArg}, {ticked(api.MaxNum + 1), api.ErrArg}, {ticked(math.MaxInt), api.ErrArg},
		{filed("", 1, 99), api.ErrArg}, {filed("a", 0, 0), api.ErrArg}, {filed("a", -4, 0), api.ErrArg}, {filed("b", api.MaxNum+1, 0), api.ErrArg}, {filed("b", 1, -1), api.ErrArg}, {filed(long, 1, 0), api.ErrArg},
		{api.Fact{Kind: api.Filed, Name: "a", Gen: 1, Time: 11, Refs: make([]api.Ref, 257)}, api.ErrLimit},
		{api.Fact{Kind: api.Filed, Name: "a", Gen: 1, Time: 9, Refs: make([]api.Ref, 256)}, api.ErrArg},
		{dropped("a", 0), api.ErrArg}, {dropped("a b", 3), api.ErrArg}, {api.Fact{Kind: api.Dropped, Name: "a", Gen: 1, Time: 1}, api.ErrForm},
		{snapped("", 0), api.ErrArg}, {snapped("s", -1), api.ErrArg}, {snapped("s", 3, held("a", 0)), api.ErrArg}, {snapped("s", 3, held("", 1)), api.ErrArg},
		{snapped("s", 99, slices.Repeat([]api.Held{held("a", 3)}, 65)...), api.ErrLimit},
		{unsnapped("\x00"), api.ErrArg}, {api.Fact{Kind: api.Unsnapped, Name: "x", Gen: 1}, api.ErrForm},
		{moved(), api.ErrArg}, {moved(move(0, 64, 0, 0)), api.ErrArg}, {moved(make([]api.Move, 65)...), api.ErrLimit},
		{expired(api.Keep{}), api.ErrArg}, {expired(api.Keep{Step: 1, Last: -1}), api.ErrArg}, {expired(api.Keep{Step: 1, Count: api.MaxNum + 1}), api.ErrArg}, {expired(api.Keep{Step: 1, Young: math.MaxInt}), api.ErrArg},
		{api.Fact{Kind: api.Laid}, api.ErrArg}, {api.Fact{Kind: api.Freed, Place: api.Place{Bin: 4096}}, api.ErrArg},
	} {
		x.refuses(t, y.f, y.want)
	}
	x.likeAll(t)
}

// P16.1: Laid and Freed change nothing.
func TestLaidFreed(t *testing.T) {
	x := with(t, ticked(4), filed("a", 1, 2, 3), snapped("s", 1, held("a", 1)))
	x.do(t, api.Fact{Kind: api.Laid, Place: api.Place{Bin: 0, Run: api.Run{At: 9, N: 3}}}, api.Fact{Kind: api.Freed}, api.Fact{Kind: api.Freed, Place: api.Place{Bin: 4095}})
	x.likeAll(t)
}

// P16.1: time does not go back.
func TestTicked(t *testing.T) {
	x := with(t, ticked(0), ticked(5), ticked(5))
	x.refuses(t, ticked(4), api.ErrArg)
	x.refuses(t, ticked(0), api.ErrArg)
	x.do(t, ticked(6), ticked(api.MaxNum))
	x.refuses(t, ticked(api.MaxNum-1), api.ErrArg)
	x.do(t, ticked(api.MaxNum))
}

// P16.1, P2: Filed, and its errors in their order.
func TestFiled(t *testing.T) {
	x := with(t, ticked(10), filed("a", 3, 10, 1, 2), filed("a", 4, 0), filed("a", 9, 5, 3))
	wantGens(t, x.b, "a", 3, 4, 9)
	x.refuses(t, filed("a", 10, 11), api.ErrArg)
	x.refuses(t, filed("b", 1, 11), api.ErrArg)
	x.refuses(t, filed("a", 9, 11), api.ErrArg)
	for _, gen := range []int{1, 2, 3, 4, 5, 8, 9} {
		x.refuses(t, filed("a", gen, 10, 7), api.ErrKnown)
	}
	x.do(t, filed("a", 10, 10), filed("b", 9, 1), filed("B", api.MaxNum, 1), filed("ab", 1, 1))
	x.refuses(t, filed("B", api.MaxNum, 1), api.ErrKnown)
	if x.b.Next("B") != api.MaxNum+1 {
		t.Error("Next", x.b.Next("B"))
	}
	x.likeAll(t)
}

// P16.1: one that is gone, but held, is there: none may be filed at or below it. One that is there no more may be filed again.
func TestFiledAboveGone(t *testing.T) {
	x := with(t, filed("a", 1, 0), filed("a", 2, 0, 1), snapped("s", 0, held("a", 2)), dropped("a", 2), dropped("a", 1))
	wantGens(t, x.b, "a", -2)
	x.refuses(t, filed("a", 1, 0), api.ErrKnown)
	x.refuses(t, filed("a", 2, 0), api.ErrKnown)
	if x.b.Next("a") != 3 || len(x.b.Newest()) != 0 {
		t.Error("Next, Newest", x.b.Next("a"), x.b.Newest())
	}
	x.do(t, filed("a", 3, 0, 2), dropped("a", 3))
	wantGens(t, x.b, "a", -2)
	x.do(t, filed("a", 3, 0, 4))
	if v, e := x.b.Get("a", 0); e != api.OK || v.Gen != 3 || !slices.Equal(v.Refs, refs(4)) {
		t.Error("Get", v, e)
	}
	x.do(t, unsnapped("s"))
	wantGens(t, x.b, "a", 3)
	x.do(t, dropped("a", 3))
	wantGens(t, x.b, "a")
	x.do(t, filed("a", 1, 0))
	x.likeAll(t)
}

// P16.1: how many files and generations there may be; those that are gone, but held, count.
func TestFiledLimits(t *testing.T) {
	x := with(t)
	for i := range api.MaxFiles {
		x.do(t, filed(fmt.Sprint("f", i), 1, 0))
	}
	x.refuses(t, filed("more", 1, 0), api.ErrLimit)
	x.refuses(t, filed("more", 1, 1), api.ErrArg)
	x.refuses(t, filed("f7", 1, 0), api.ErrKnown)
	x.do(t, snapped("s", 0, held("f5", 1)), dropped("f5", 1))
	x.refuses(t, filed("more", 1, 0), api.ErrLimit)
	x.do(t, filed("f5", 2, 0), dropped("f5", 2), dropped("f6", 1), filed("more", 1, 0))
	x.refuses(t, filed("f6", 1, 0), api.ErrLimit)
	x.do(t, unsnapped("s"), filed("f6", 1, 0))
	x.refuses(t, filed("f5", 1, 0), api.ErrLimit)

	for gen := range api.MaxGens - 1 {
		x.do(t, filed("f9", 2*gen+2, 0))
	}
	x.refuses(t, filed("f9", 100, 0), api.ErrLimit)
	x.refuses(t, filed("f9", 62, 0), api.ErrKnown)
	x.refuses(t, filed("f9", 3, 0), api.ErrKnown)
	x.do(t, snapped("s", 0, held("f9", 8)), dropped("f9", 8))
	x.refuses(t, filed("f9", 100, 0), api.ErrLimit)
	x.do(t, dropped("f9", 10), filed("f9", 100, 0))
	x.refuses(t, filed("f9", 101, 0), api.ErrLimit)
	x.do(t, unsnapped("s"), filed("f9", 101, 0))
	x.likeAll(t)
}

// P16.1: Dropped of what is not there, or not live.
func TestDropped(t *testing.T) {
	x := with(t, filed("a", 1, 0), filed("a", 2, 0), filed("a", 5, 0), filed("b", 3, 0), snapped("s", 0, held("a", 2)))
	for _, f := range []api.Fact{dropped("a", 3), dropped("a", 4), dropped("a", 6), dropped("b", 1), dropped("c", 1), dropped("s", 2), dropped("A", 1)} {
		x.refuses(t, f, api.ErrGone)
	}
	x.do(t, dropped("a", 2))
	wantGens(t, x.b, "a", 1, -2, 5)
	x.refuses(t, dropped("a", 2), api.ErrGone)
	x.do(t, dropped("a", 1))
	wantGens(t, x.b, "a", -2, 5)
	x.refuses(t, dropped("a", 1), api.ErrGone)
	x.do(t, dropped("a", 5), dropped("b", 3))
	wantGens(t, x.b, "a", -2)
	wantGens(t, x.b, "b")
	x.refuses(t, dropped("b", 3), api.ErrGone)
	x.likeAll(t)
}

// P16.1, P2: Snapped, and its errors in their order.
func TestSnapped(t *testing.T) {
	x := with(t, ticked(9), filed("a", 1, 0), filed("a", 2, 0), filed("b", 4, 0), filed("c", 1, 0), snapped("s", 9, held("a", 1), held("b", 4)))
	x.do(t, snapped("none", 3), snapped("r", 0, held("a", 2)), dropped("a", 1))
	x.refuses(t, snapped("s", 10, held("a", 2)), api.ErrArg)
	x.refuses(t, snapped("q", 10), api.ErrArg)
	x.refuses(t, snapped("s", 9, held("x", 1)), api.ErrKnown)
	x.refuses(t, snapped("none", 0), api.ErrKnown)
	// A file's name is another thing than a snapshot's.
	x.do(t, snapped("a", 0))
	for _, l := range [][]api.Held{{held("x", 1)}, {held("a", 1)}, {held("a", 3)}, {held("b", 1)}, {held("a", 2), held("d", 1)}, {held("d", 1), held("a", 2)}, {held("c", 1), held("b", 4), held("a", 1)}} {
		x.refuses(t, snapped("q", 9, l...), api.ErrGone)
	}
	for _, l := range [][]api.Held{{held("b", 4), held("a", 2)}, {held("a", 2), held("a", 2)}, {held("a", 2), held("c", 1), held("b", 4)}, {held("a", 2), held("b", 4), held("b", 4)}} {
		x.refuses(t, snapped("q", 9, l...), api.ErrForm)
	}
	x.do(t, filed("a", 3, 0))
	x.refuses(t, snapped("q", 9, held("a", 2), held("a", 3)), api.ErrForm)
	x.do(t, snapped("q", 9, held("a", 2), held("b", 4), held("c", 1)))
	x.likeAll(t)
}

// P16.1: how many snapshots there may be, and how many each may hold.
func TestSnappedLimits(t *testing.T) {
	x := with(t)
	for i := range api.MaxHeld {
		x.do(t, filed(fmt.Sprintf("f%02d", i), 1, 0))
	}
	for i := range api.MaxSnaps {
		x.do(t, snapped(fmt.Sprint("s", i), 0, x.b.Newest()...))
	}
	x.refuses(t, snapped("more", 0), api.ErrLimit)
	x.refuses(t, snapped("more", 0, held("x", 1)), api.ErrLimit)
	x.refuses(t, snapped("s3", 0), api.ErrKnown)
	x.refuses(t, snapped("more", 1), api.ErrArg)
	x.do(t, unsnapped("s3"), snapped("more", 0))
	x.refuses(t, snapped("s3", 0), api.ErrLimit)
	x.likeAll(t)
}

// P16.1: Unsnapped: what is gone stays as long as another one holds it; what is live stays.
func TestUnsnapped(t *testing.T) {
	x := with(t, filed("a", 1, 0, 1), filed("a", 2, 0, 2), filed("b", 1, 0, 3), filed("c", 7, 0, 4))
	x.do(t, snapped("r", 0, held("a", 1), held("b", 1), held("c", 7)), snapped("s", 0, held("a", 1), held("b", 1)), snapped("t", 0, held("a", 2)))
	x.do(t, dropped("a", 1), dropped("c", 7), dropped("a", 2))
	x.refuses(t, unsnapped("x"), api.ErrGone)
	x.refuses(t, unsnapped("a"), api.ErrGone)
	x.do(t, unsnapped("r"))
	wantGens(t, x.b, "a", -1, -2)
	wantGens(t, x.b, "b", 1)
	wantGens(t, x.b, "c")
	x.refuses(t, unsnapped("r"), api.ErrGone)
	x.do(t, unsnapped("s"))
	wantGens(t, x.b, "a", -2)
	wantGens(t, x.b, "b", 1)
	x.do(t, unsnapped("t"))
	wantGens(t, x.b, "a")
	if _, e := x.b.Via("t", "a"); e != api.ErrGone {
		t.Error("Via", e)
	}
	x.likeAll(t)
}

// P16.1: Moved moves the refs of all generations, live and gone; none twice.
func TestMoved(t *testing.T) {
	x := with(t, filed("a", 1, 0, 1, 2, 1), filed("a", 2, 0, 2, 3), filed("b", 1, 0, 9), snapped("s", 0, held("a", 1)), dropped("a", 1))
	x.do(t, moved(move(0, 1, 7, 7), move(0, 2, 0, 3), move(0, 3, 0, 2), move(0, 1, 8, 8), move(7, 7, 9, 9)))
	if v, e := x.b.Via("s", "a"); e != api.OK || !slices.Equal(v.Refs, []api.Ref{ref(1, 7, 7), ref(2, 0, 3), ref(1, 7, 7)}) {
		t.Error("Via", v, e)
	}
	if v, e := x.b.Get("a", 2); e != api.OK || !slices.Equal(v.Refs, []api.Ref{ref(2, 0, 3), ref(3, 0, 2)}) {
		t.Error("Get", v, e)
	}
	if v, e := x.b.Get("b", 0); e != api.OK || !slices.Equal(v.Refs, refs(9)) {
		t.Error("Get", v, e)
	}
	x.do(t, moved(move(20, 20, 0, 0)))
	x.likeAll(t)
}

// P16.2: what is told, by names as bytes are ordered.
func TestTold(t *testing.T) {
	x := with(t, ticked(20), filed("b", 2, 7, 1), filed("a10", 1, 1), filed("a9", 1, 2), filed("~", 1, 3), filed("B", 5, 4), filed("b", 3, 8, 2), filed("!", 1, 1))
	x.do(t, snapped("z", 4, held("b", 2)), snapped("Z", 5), dropped("b", 2), dropped("b", 3))
	var l []string
	for _, f := range x.b.Files() {
		l = append(l, f.Name)
	}
	if want := []string{"!", "B", "a10", "a9", "b", "~"}; !slices.Equal(l, want) {
		t.Error("Files", l)
	}
	if got, want := x.b.Newest(), []api.Held{held("!", 1), held("B", 5), held("a10", 1), held("a9", 1), held("~", 1)}; !slices.Equal(got, want) {
		t.Error("Newest", got)
	}
	if got, want := x.b.Shots(), []api.Shot{{Name: "Z", Time: 5}, {Name: "z", Time: 4, Held: []api.Held{held("b", 2)}}}; !slices.EqualFunc(got, want, sameShot) {
		t.Error("Shots", got)
	}
	wantGens(t, x.b, "b", -2)
	if x.b.Now() != 20 || x.b.Next("b") != 3 || x.b.Next("B") != 6 || x.b.Next("c") != 1 {
		t.Error("Now, Next", x.b.Now(), x.b.Next("b"), x.b.Next("B"))
	}
	for _, gen := range []int{math.MinInt, -1, 0, 1, 2, 3, 4, math.MaxInt} {
		if v, e := x.b.Get("b", gen); e != api.ErrGone || !sameVersion(v, api.Version{}) {
			t.Error("Get", gen, v, e)
		}
		x.gets(t, "B", gen)
		x.gets(t, "!", gen)
	}
	for _, y := range [][2]string{{"z", "B"}, {"Z", "b"}, {"y", "b"}, {"b", "z"}, {"", ""}, {"z", ""}, {"z", "\xff\x00"}} {
		if v, e := x.b.Via(y[0], y[1]); e != api.ErrGone || !sameVersion(v, api.Version{}) {
			t.Error("Via", y, v, e)
		}
	}
	if v, e := x.b.Via("z", "b"); e != api.OK || !sameVersion(v, api.Version{Gen: 2, Time: 7, Refs: refs(1), Gone: true}) {
		t.Error("Via", v, e)
	}
	x.likeAll(t)
}

// P16.2: the greatest one that is live, where greater ones are gone.
func TestGetNewest(t *testing.T) {
	x := with(t, filed("a", 1, 0, 1), filed("a", 4, 0, 2), filed("a", 6, 0, 3), filed("a", 7, 0, 4), snapped("s", 0, held("a", 7)), snapped("t", 0, held("a", 4)))
	for _, y := range []struct{ drop, newest int }{{7, 6}, {4, 6}, {6, 1}} {
		x.do(t, dropped("a", y.drop))
		if v, e := x.b.Get("a", 0); e != api.OK || v.Gen != y.newest || v.Gone {
			t.Error("Get", v, e)
		}
		if l := x.b.Newest(); !slices.Equal(l, []api.Held{held("a", y.newest)}) {
			t.Error("Newest", l)
		}
		if v, e := x.b.Get("a", y.drop); e != api.ErrGone || !sameVersion(v, api.Version{}) {
			t.Error("Get of what is gone", v, e)
		}
	}
	x.do(t, dropped("a", 1))
	if _, e := x.b.Get("a", 0); e != api.ErrGone || x.b.Next("a") != 8 {
		t.Error("Get", e, x.b.Next("a"))
	}
	x.likeAll(t)
}

// P16.4: of refs of one spot the first one, by files, generations and refs; what is gone, but held, is live for its chunks.
func TestLive(t *testing.T) {
	at := func(x byte, bin, slot int) api.Ref { return ref(x, bin, slot) }
	file := func(name string, gen int, l ...api.Ref) api.Fact {
		return api.Fact{Kind: api.Filed, Name: name, Gen: gen, Refs: l}
	}
	x := with(t, file("b", 1, at(1, 3, 0), at(2, 1, 5)), file("a", 2, at(3, 3, 0), at(4, 3, 0), at(5, 2, 9)), file("a", 3, at(6, 2, 9), at(7, 2, 8)), file("c", 1, at(8, 1, 5)), file("d", 1, at(9, 10, 0)))
	want := func(l ...api.Ref) {
		t.Helper()
		if got := x.b.Live(); !slices.Equal(got, l) {
			t.Errorf("Live: %v; want %v", got, l)
		}
		x.likeAll(t)
	}
	want(at(2, 1, 5), at(7, 2, 8), at(5, 2, 9), at(3, 3, 0), at(9, 10, 0))
	x.do(t, snapped("s", 0, held("a", 2), held("b", 1)), dropped("a", 2))
	want(at(2, 1, 5), at(7, 2, 8), at(5, 2, 9), at(3, 3, 0), at(9, 10, 0))
	x.do(t, unsnapped("s"))
	want(at(2, 1, 5), at(7, 2, 8), at(6, 2, 9), at(1, 3, 0), at(9, 10, 0))
	x.do(t, dropped("b", 1))
	want(at(8, 1, 5), at(7, 2, 8), at(6, 2, 9), at(9, 10, 0))
	x.do(t, moved(move(10, 0, 0, 0)))
	want(at(9, 0, 0), at(8, 1, 5), at(7, 2, 8), at(6, 2, 9))
}

// P16.4: the Facts, in their order.
func TestFacts(t *testing.T) {
	x := with(t, ticked(8), filed("b", 2, 5, 1), filed("a", 1, 6, 2, 3), filed("b", 3, 7), filed("a", 4, 8), snapped("z", 3, held("a", 1), held("b", 2)), snapped("y", 8), dropped("b", 2), dropped("a", 1), dropped("b", 3), ticked(9))
	want := []api.Fact{ticked(9), filed("a", 1, 6, 2, 3), filed("a", 4, 8), filed("b", 2, 5, 1), snapped("y", 8), snapped("z", 3, held("a", 1), held("b", 2)), dropped("a", 1), dropped("b", 2)}
	if got := x.b.Facts(); !slices.EqualFunc(got, want, sameFact) {
		t.Errorf("Facts: %+v", got)
	}
	x.do(t, moved(move(0, 2, 5, 5)))
	want[1].Refs[0].Bin, want[1].Refs[0].Slot = 5, 5
	if got := x.b.Facts(); !slices.EqualFunc(got, want, sameFact) {
		t.Errorf("Facts: %+v", got)
	}
}

// P16.7: what a snapshot holds it tells as it was, whatever is filed, dropped, expired or snapped.
func TestHeldStays(t *testing.T) {
	x := with(t, ticked(5), filed("a", 1, 1, 1), filed("a", 2, 2, 2, 3), filed("b", 1, 3, 4), snapped("s", 4, held("a", 2), held("b", 1)))
	shows := func() {
		t.Helper()
		a, ea := x.b.Via("s", "a")
		b, eb := x.b.Via("s", "b")
		if ea != api.OK || eb != api.OK || a.Gen != 2 || a.Time != 2 || !slices.Equal(a.Refs, refs(2, 3)) || b.Gen != 1 || b.Time != 3 || !slices.Equal(b.Refs, refs(4)) {
			t.Error("Via", a, ea, b, eb)
		}
	}
	for _, f := range []api.Fact{filed("a", 3, 5, 9), dropped("a", 2), snapped("r", 5, held("a", 3), held("b", 1)), dropped("b", 1), unsnapped("r"), ticked(50), expired(api.Keep{Step: 1}), filed("b", 2, 50, 8), snapped("t", 5, held("b", 2)), dropped("b", 2), unsnapped("t")} {
		x.do(t, f)
		shows()
	}
	x.do(t, unsnapped("s"))
	if len(x.b.Files()) != 0 {
		t.Error("Files", x.b.Files())
	}
}
