package record_test

import (
	"math"
	"reflect"
	"strings"
	"testing"

	"aumbry/api"
	"aumbry/record"
)

// The signatures that the chapter lists.
var (
	_ func(string) bool                      = record.Name
	_ func(api.Fact) api.Errno               = record.Check
	_ func([]api.Fact) ([]byte, api.Errno)   = record.Put
	_ func(b []byte) ([]api.Fact, api.Errno) = record.Take
)

// edges are numbers that a part of a fact may have, or may not: around each limit, and far off.
var edges = []int{
	math.MinInt, math.MinInt + 1, -api.MaxNum, -1, 0, 1, 2, 3, 63, 64, 65, 255, 256, 4094, 4095, 4096, 4097,
	api.MaxNum - 1, api.MaxNum, api.MaxNum + 1, math.MaxInt - 1, math.MaxInt,
}

// good is a fact of each kind that is right.
func good() map[api.Kind]api.Fact {
	return map[api.Kind]api.Fact{
		api.Laid:      {Kind: api.Laid, Place: api.Place{Bin: 3, Run: api.Run{At: 10, N: 2}}},
		api.Freed:     {Kind: api.Freed, Place: api.Place{Bin: 3}},
		api.Filed:     {Kind: api.Filed, Name: "db", Gen: 2, Time: 7, Refs: []api.Ref{ref(1, 5, 3, 0), ref(2, 6, 3, 1)}},
		api.Dropped:   {Kind: api.Dropped, Name: "db", Gen: 2},
		api.Snapped:   {Kind: api.Snapped, Name: "s", Time: 8, Held: []api.Held{{Name: "db", Gen: 2}, {Name: "x", Gen: 1}}},
		api.Unsnapped: {Kind: api.Unsnapped, Name: "s"},
		api.Moved:     {Kind: api.Moved, Moves: []api.Move{move(1, 2, 3, 4), move(5, 6, 7, 8)}},
		api.Ticked:    {Kind: api.Ticked, Time: 300},
		api.Expired:   {Kind: api.Expired, Keep: api.Keep{Last: 1, Young: 2, Step: 3, Count: 4}},
	}
}

func ref(x byte, n, bin, slot int) api.Ref {
	return api.Ref{Sum: api.Sum{x, 31: x}, Len: n, Bin: bin, Slot: slot}
}

func move(fromBin, fromSlot, toBin, toSlot int) api.Move {
	return api.Move{From: api.Spot{Bin: fromBin, Slot: fromSlot}, To: api.Spot{Bin: toBin, Slot: toSlot}}
}

func wantCheck(t *testing.T, f api.Fact, want api.Errno) {
	t.Helper()
	if e := record.Check(f); e != want {
		t.Errorf("Check(%+v): %d, want %d", f, e, want)
	}
}

// P13.1: how long a name is, and each byte at each end and amid it.
func TestName(t *testing.T) {
	for n := range 200 {
		if got := record.Name(strings.Repeat("n", n)); got != (n >= 1 && n <= 32) {
			t.Errorf("a name of %d bytes: %v", n, got)
		}
	}
	for x := range 256 {
		one := string([]byte{byte(x)})
		for _, s := range []string{one, one + "a", "a" + one, "a" + one + "a", strings.Repeat("~", 31) + one, one + strings.Repeat("!", 31)} {
			if got := record.Name(s); got != (x >= 33 && x <= 126) {
				t.Errorf("Name(%q): %v", s, got)
			}
		}
	}
	for _, s := range []string{"é", "aé", "日本", "a b", "\xff\xfe", "a\x00", "a\n"} {
		if record.Name(s) {
			t.Errorf("Name(%q)", s)
		}
	}
}

// P13.1: facts of each kind that are right, at their edges, too.
func TestCheckRight(t *testing.T) {
	for _, f := range good() {
		wantCheck(t, f, api.OK)
	}
	long := strings.Repeat("~", 32)
	for _, f := range []api.Fact{
		{Kind: api.Laid, Place: api.Place{Run: api.Run{N: 2}}},
		{Kind: api.Laid, Place: api.Place{Bin: 4095, Run: api.Run{At: 4095, N: 64}}},
		{Kind: api.Freed},
		{Kind: api.Freed, Place: api.Place{Bin: 4095}},
		{Kind: api.Filed, Name: "!", Gen: 1},
		{Kind: api.Filed, Name: long, Gen: api.MaxNum, Time: api.MaxNum, Refs: many(256, ref(0, 1, 0, 0))},
		{Kind: api.Filed, Name: "a", Gen: 1, Refs: []api.Ref{ref(255, 512, 4095, 63)}},
		{Kind: api.Dropped, Name: long, Gen: api.MaxNum},
		{Kind: api.Snapped, Name: "!"},
		{Kind: api.Snapped, Name: long, Time: api.MaxNum, Held: many(64, api.Held{Name: long, Gen: api.MaxNum})},
		{Kind: api.Snapped, Name: "a", Held: []api.Held{{Name: "b", Gen: 1}, {Name: "b", Gen: 1}, {Name: "a", Gen: 1}}},
		{Kind: api.Unsnapped, Name: long},
		{Kind: api.Moved, Moves: many(64, move(4095, 63, 4095, 63))},
		{Kind: api.Moved, Moves: []api.Move{{}}},
		{Kind: api.Ticked},
		{Kind: api.Ticked, Time: api.MaxNum},
		{Kind: api.Expired, Keep: api.Keep{Step: 1}},
		{Kind: api.Expired, Keep: api.Keep{Last: api.MaxNum, Young: api.MaxNum, Step: api.MaxNum, Count: api.MaxNum}},
	} {
		wantCheck(t, f, api.OK)
	}
}

func many[T any](n int, x T) []T {
	l := make([]T, n)
	for i := range l {
		l[i] = x
	}
	return l
}

// P13.1: a Kind that is none, whatever else the fact has.
func TestCheckKind(t *testing.T) {
	for _, k := range []int{math.MinInt, -10, -1, 0, 10, 11, 128, 256, 257, 1 << 32, 1<<32 + 1, math.MaxInt} {
		wantCheck(t, api.Fact{Kind: api.Kind(k)}, api.ErrForm)
		for _, f := range good() {
			f.Kind = api.Kind(k)
			wantCheck(t, f, api.ErrForm)
		}
		wantCheck(t, api.Fact{Kind: api.Kind(k), Refs: make([]api.Ref, 300), Name: " "}, api.ErrForm)
	}
}

// fills are what makes one part of a fact not zero, by the part's name.
var fills = []struct {
	part string
	fill func(*api.Fact)
}{
	{"Place", func(f *api.Fact) { f.Place.Bin = 1 }},
	{"Place", func(f *api.Fact) { f.Place.Bin = -1 }},
	{"Place", func(f *api.Fact) { f.Place.Run.At = 1 }},
	{"Place", func(f *api.Fact) { f.Place.Run.N = 2 }},
	{"Name", func(f *api.Fact) { f.Name = "n" }},
	{"Name", func(f *api.Fact) { f.Name = "\x00" }},
	{"Gen", func(f *api.Fact) { f.Gen = 1 }},
	{"Gen", func(f *api.Fact) { f.Gen = -1 }},
	{"Time", func(f *api.Fact) { f.Time = 1 }},
	{"Time", func(f *api.Fact) { f.Time = -1 }},
	{"Refs", func(f *api.Fact) { f.Refs = make([]api.Ref, 1) }},
	{"Refs", func(f *api.Fact) { f.Refs = make([]api.Ref, 300) }},
	{"Held", func(f *api.Fact) { f.Held = make([]api.Held, 1) }},
	{"Held", func(f *api.Fact) { f.Held = make([]api.Held, 100) }},
	{"Moves", func(f *api.Fact) { f.Moves = make([]api.Move, 1) }},
	{"Moves", func(f *api.Fact) { f.Moves = make([]api.Move, 100) }},
	{"Keep", func(f *api.Fact) { f.Keep.Last = 1 }},
	{"Keep", func(f *api.Fact) { f.Keep.Young = 1 }},
	{"Keep", func(f *api.Fact) { f.Keep.Step = 1 }},
	{"Keep", func(f *api.Fact) { f.Keep.Count = -1 }},
}

// P13.1, P2: what the Kind does not name is zero, and that is asked ahead of whether what it names is right.
func TestCheckNamesNoMore(t *testing.T) {
	for kind, f := range good() {
		for _, x := range fills {
			if strings.Contains(named[kind], x.part) {
				continue
			}
			full := f
			x.fill(&full)
			wantCheck(t, full, api.ErrForm)
			wrong := api.Fact{Kind: kind}
			x.fill(&wrong)
			wantCheck(t, wrong, api.ErrForm)
		}
	}
}

// P13.1, P3: a list without elements is zero, nil or not.
func TestCheckEmptyLists(t *testing.T) {
	for kind, f := range good() {
		for _, part := range []string{"Refs", "Held", "Moves"} {
			if strings.Contains(named[kind], part) {
				continue
			}
			v := reflect.ValueOf(&f).Elem().FieldByName(part)
			v.Set(reflect.MakeSlice(v.Type(), 0, 3))
		}
		wantCheck(t, f, api.OK)
	}
	wantCheck(t, api.Fact{Kind: api.Filed, Name: "a", Gen: 1, Refs: []api.Ref{}}, api.OK)
	wantCheck(t, api.Fact{Kind: api.Snapped, Name: "a", Held: []api.Held{}}, api.OK)
	wantCheck(t, api.Fact{Kind: api.Moved, Moves: []api.Move{}}, api.ErrArg)
}

// P13.1: each number of each kind at all edges, with all else right.
func TestCheckNumbers(t *testing.T) {
	for _, x := range []struct {
		kind     api.Kind
		at       func(*api.Fact) *int
		min, max int
	}{
		{api.Laid, func(f *api.Fact) *int { return &f.Place.Bin }, 0, 4095},
		{api.Laid, func(f *api.Fact) *int { return &f.Place.Run.At }, 0, 4095},
		{api.Laid, func(f *api.Fact) *int { return &f.Place.Run.N }, 2, 64},
		{api.Freed, func(f *api.Fact) *int { return &f.Place.Bin }, 0, 4095},
		{api.Freed, func(f *api.Fact) *int { return &f.Place.Run.At }, 0, 0},
		{api.Freed, func(f *api.Fact) *int { return &f.Place.Run.N }, 0, 0},
		{api.Filed, func(f *api.Fact) *int { return &f.Gen }, 1, api.MaxNum},
		{api.Filed, func(f *api.Fact) *int { return &f.Time }, 0, api.MaxNum},
		{api.Filed, func(f *api.Fact) *int { return &f.Refs[0].Len }, 1, 512},
		{api.Filed, func(f *api.Fact) *int { return &f.Refs[1].Len }, 1, 512},
		{api.Filed, func(f *api.Fact) *int { return &f.Refs[1].Bin }, 0, 4095},
		{api.Filed, func(f *api.Fact) *int { return &f.Refs[1].Slot }, 0, 63},
		{api.Dropped, func(f *api.Fact) *int { return &f.Gen }, 1, api.MaxNum},
		{api.Snapped, func(f *api.Fact) *int { return &f.Time }, 0, api.MaxNum},
		{api.Snapped, func(f *api.Fact) *int { return &f.Held[0].Gen }, 1, api.MaxNum},
		{api.Snapped, func(f *api.Fact) *int { return &f.Held[1].Gen }, 1, api.MaxNum},
		{api.Moved, func(f *api.Fact) *int { return &f.Moves[0].From.Bin }, 0, 4095},
		{api.Moved, func(f *api.Fact) *int { return &f.Moves[1].From.Bin }, 0, 4095},
		{api.Moved, func(f *api.Fact) *int { return &f.Moves[1].From.Slot }, 0, 63},
		{api.Moved, func(f *api.Fact) *int { return &f.Moves[1].To.Bin }, 0, 4095},
		{api.Moved, func(f *api.Fact) *int { return &f.Moves[1].To.Slot }, 0, 63},
		{api.Ticked, func(f *api.Fact) *int { return &f.Time }, 0, api.MaxNum},
		{api.Expired, func(f *api.Fact) *int { return &f.Keep.Last }, 0, api.MaxNum},
		{api.Expired, func(f *api.Fact) *int { return &f.Keep.Young }, 0, api.MaxNum},
		{api.Expired, func(f *api.Fact) *int { return &f.Keep.Step }, 1, api.MaxNum},
		{api.Expired, func(f *api.Fact) *int { return &f.Keep.Count }, 0, api.MaxNum},
	} {
		for _, n := range append(edges, 511, 512, 513) {
			f := good()[x.kind]
			*x.at(&f) = n
			want := api.ErrArg
			if n >= x.min && n <= x.max {
				want = api.OK
			}
			wantCheck(t, f, want)
		}
	}
}

// P13.1: names that are not right.
func TestCheckNames(t *testing.T) {
	for _, name := range []string{"", " ", "a b", "\x7f", "é", strings.Repeat("n", 33), strings.Repeat("n", 1000)} {
		for _, kind := range []api.Kind{api.Filed, api.Dropped, api.Snapped, api.Unsnapped} {
			f := good()[kind]
			f.Name = name
			wantCheck(t, f, api.ErrArg)
		}
		for i := range 2 {
			f := good()[api.Snapped]
			f.Held[i].Name = name
			wantCheck(t, f, api.ErrArg)
		}
	}
	wantCheck(t, api.Fact{Kind: api.Moved}, api.ErrArg)
}

// P13.1, P2: parts are asked ahead of how long lists are, and that ahead of what they have.
func TestCheckOrder(t *testing.T) {
	refs, held, moves := many(257, ref(1, 1, 1, 1)), many(65, api.Held{Name: "a", Gen: 1}), many(65, move(1, 1, 1, 1))
	for range 2 {
		wantCheck(t, api.Fact{Kind: api.Filed, Name: "a", Gen: 1, Refs: refs}, api.ErrLimit)
		wantCheck(t, api.Fact{Kind: api.Filed, Name: "", Gen: 1, Refs: refs}, api.ErrArg)
		wantCheck(t, api.Fact{Kind: api.Filed, Name: "a", Gen: 0, Refs: refs}, api.ErrArg)
		wantCheck(t, api.Fact{Kind: api.Filed, Name: "a", Gen: 1, Time: -1, Refs: refs}, api.ErrArg)
		wantCheck(t, api.Fact{Kind: api.Filed, Name: "", Gen: 1, Refs: refs, Held: held}, api.ErrForm)
		wantCheck(t, api.Fact{Kind: api.Snapped, Name: "a", Held: held}, api.ErrLimit)
		wantCheck(t, api.Fact{Kind: api.Snapped, Name: "", Held: held}, api.ErrArg)
		wantCheck(t, api.Fact{Kind: api.Snapped, Name: "a", Time: -1, Held: held}, api.ErrArg)
		wantCheck(t, api.Fact{Kind: api.Moved, Moves: moves}, api.ErrLimit)
		wantCheck(t, api.Fact{Kind: api.Moved, Moves: moves, Time: -1}, api.ErrForm)
		// The second time all elements are wrong, too.
		refs, held, moves = make([]api.Ref, 257), make([]api.Held, 65), many(65, move(-1, 0, 0, 0))
	}
	wantCheck(t, api.Fact{Kind: api.Filed, Name: "a", Gen: 1, Refs: refs[:256]}, api.ErrArg)
	wantCheck(t, api.Fact{Kind: api.Snapped, Name: "a", Held: held[:64]}, api.ErrArg)
	wantCheck(t, api.Fact{Kind: api.Moved, Moves: moves[:64]}, api.ErrArg)
	last := many(256, ref(1, 1, 1, 1))
	last[255].Len = 0
	wantCheck(t, api.Fact{Kind: api.Filed, Name: "a", Gen: 1, Refs: last}, api.ErrArg)
}
