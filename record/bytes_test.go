package record_test

import (
	"bytes"
	"maps"
	"math/rand"
	"reflect"
	"slices"
	"strings"
	"testing"

	"aumbry/api"
	"aumbry/record"
)

func wantPut(t *testing.T, l []api.Fact, want []byte) {
	t.Helper()
	if b, e := record.Put(l); e != api.OK || !bytes.Equal(b, want) {
		t.Errorf("Put(%+v): % x, %d; want % x", l, b, e, want)
	}
}

func wantPutErrno(t *testing.T, l []api.Fact, want api.Errno) {
	t.Helper()
	if b, e := record.Put(l); len(b) != 0 || e != want {
		t.Errorf("Put of %d facts: % x, %d; want %d", len(l), b, e, want)
	}
}

func wantTake(t *testing.T, b []byte, want []api.Fact) {
	t.Helper()
	if l, e := record.Take(b); e != api.OK || !reflect.DeepEqual(l, want) {
		t.Errorf("Take(% x): %+v, %d; want %+v", b, l, e, want)
	}
}

func wantTakeErrno(t *testing.T, b []byte, want api.Errno) {
	t.Helper()
	if l, e := record.Take(b); len(l) != 0 || e != want {
		t.Errorf("Take(% x): %d facts, %d; want %d", b, len(l), e, want)
	}
}

// byKind is a right fact of each kind, in their order.
func byKind() []api.Fact {
	facts := good()
	var l []api.Fact
	for _, k := range slices.Sorted(maps.Keys(facts)) {
		l = append(l, facts[k])
	}
	return l
}

// P13.2: the chapter's example, and known bytes of each kind.
func TestPutKnown(t *testing.T) {
	sum := func(x byte) string { return string(x2(x)) }
	known := []string{
		"\x01\x03\x0a\x02",
		"\x02\x03",
		"\x03\x02db\x02\x07\x02" + sum(1) + "\x05\x03\x00" + sum(2) + "\x06\x03\x01",
		"\x04\x02db\x02",
		"\x05\x01s\x08\x02\x02db\x02\x01x\x01",
		"\x06\x01s",
		"\x07\x02\x01\x02\x03\x04\x05\x06\x07\x08",
		"\x08\xac\x02",
		"\x09\x01\x02\x03\x04",
	}
	for i, f := range byKind() {
		wantPut(t, []api.Fact{f}, []byte("\x01"+known[i]))
		wantPut(t, []api.Fact{f, f}, []byte("\x02"+known[i]+known[i]))
		wantTake(t, []byte("\x01"+known[i]), []api.Fact{f})
	}
	wantPut(t, byKind(), []byte("\x09"+strings.Join(known, "")))
	wantTake(t, []byte("\x09"+strings.Join(known, "")), byKind())
	wantPut(t, []api.Fact{{Kind: api.Filed, Name: "a", Gen: 1}}, []byte("\x01\x03\x01a\x01\x00\x00"))
	wantPut(t, []api.Fact{{Kind: api.Snapped, Name: "a"}}, []byte("\x01\x05\x01a\x00\x00"))
}

// x2 is the bytes of a ref's sum.
func x2(x byte) []byte {
	s := ref(x, 1, 0, 0).Sum
	return s[:]
}

// P13.2: greater numbers, and lists that are full.
func TestPutGreat(t *testing.T) {
	name := strings.Repeat("z", 32)
	for _, f := range []api.Fact{
		{Kind: api.Laid, Place: api.Place{Bin: 4095, Run: api.Run{At: 128, N: 64}}},
		{Kind: api.Filed, Name: name, Gen: api.MaxNum, Time: api.MaxNum - 1, Refs: many(256, ref(9, 512, 4095, 63))},
		{Kind: api.Snapped, Name: name, Time: api.MaxNum, Held: many(64, api.Held{Name: name, Gen: api.MaxNum})},
		{Kind: api.Moved, Moves: many(64, move(4095, 63, 200, 62))},
		{Kind: api.Expired, Keep: api.Keep{Last: api.MaxNum, Young: 1 << 49, Step: 1 << 48, Count: 127}},
	} {
		wantPut(t, []api.Fact{f}, plainPut([]api.Fact{f}))
		wantTake(t, plainPut([]api.Fact{f}), []api.Fact{f})
	}
	l := many(300, api.Fact{Kind: api.Ticked, Time: 1})
	wantPut(t, l, append([]byte{0xac, 2}, bytes.Repeat([]byte{8, 1}, 300)...))
	wantTake(t, plainPut(l), l)
}

// P13.2, P2: none, too many, and Check's error of the first one that has one.
func TestPutWrong(t *testing.T) {
	form, arg := api.Fact{Kind: api.Ticked, Gen: 1}, api.Fact{Kind: api.Ticked, Time: -1}
	limit := api.Fact{Kind: api.Moved, Moves: many(65, move(0, 0, 0, 0))}
	ok := api.Fact{Kind: api.Ticked}
	wantPutErrno(t, nil, api.ErrArg)
	wantPutErrno(t, []api.Fact{}, api.ErrArg)
	for _, x := range []struct {
		f    api.Fact
		want api.Errno
	}{{form, api.ErrForm}, {arg, api.ErrArg}, {limit, api.ErrLimit}, {api.Fact{}, api.ErrForm}} {
		wantPutErrno(t, []api.Fact{x.f}, x.want)
		wantPutErrno(t, []api.Fact{ok, x.f}, x.want)
		wantPutErrno(t, []api.Fact{x.f, ok}, x.want)
		for _, later := range []api.Fact{form, arg, limit, {}} {
			wantPutErrno(t, []api.Fact{ok, x.f, later}, x.want)
		}
		wantPutErrno(t, append(many(299, ok), x.f), x.want)
		wantPutErrno(t, append(many(300, ok), x.f), api.ErrLimit)
		wantPutErrno(t, many(301, x.f), api.ErrLimit)
	}
	wantPutErrno(t, many(301, ok), api.ErrLimit)
	wantPutErrno(t, make([]api.Fact, 5000), api.ErrLimit)
}

// P13.4 (B1): what is put is taken, what is taken is put as it was.
func TestTakeOfPut(t *testing.T) {
	r := rand.New(rand.NewSource(1))
	for i := range 1500 {
		n, most := 1+r.Intn(6), 6
		if i%100 == 0 {
			n, most = 1+r.Intn(300), 10
		}
		if i%100 == 1 {
			n, most = 1+r.Intn(3), 256
		}
		l := randomFacts(r, n, most)
		b := plainPut(l)
		wantPut(t, l, b)
		wantTake(t, b, l)
		for _, f := range l {
			wantCheck(t, f, api.OK)
		}
	}
}

// P13.3: bytes that end too early, at each place.
func TestTakeShort(t *testing.T) {
	for _, l := range append([][]api.Fact{byKind()}, slices.Collect(slices.Chunk(byKind(), 1))...) {
		b := plainPut(l)
		for n := range b {
			wantTakeErrno(t, b[:n], api.ErrShort)
			wantTakeErrno(t, b[:n:n], api.ErrShort)
		}
		// One fact more is claimed than there are.
		b[0]++
		wantTakeErrno(t, b, api.ErrShort)
	}
	wantTakeErrno(t, nil, api.ErrShort)
	wantTakeErrno(t, []byte{0x80}, api.ErrShort)
}

// P13.3: no facts, whatever is behind; too many, whatever is behind.
func TestTakeHowMany(t *testing.T) {
	for _, behind := range [][]byte{nil, {0}, {8, 1}, {0x80, 0}, bytes.Repeat([]byte{8, 1}, 400)} {
		wantTakeErrno(t, lay(0, behind), api.ErrArg)
		for _, n := range []int{301, 302, 1 << 14, 1 << 31, api.MaxNum} {
			wantTakeErrno(t, lay(n, behind), api.ErrLimit)
		}
	}
}

// P13.3: bytes that are left.
func TestTakeLeft(t *testing.T) {
	for _, f := range byKind() {
		b := plainPut([]api.Fact{f})
		for _, more := range [][]byte{{0}, {255}, {8, 1}, b[1:], b} {
			wantTakeErrno(t, lay(b, more), api.ErrForm)
		}
	}
}

// P13.3: a Kind that is none is told where it stands, whatever is behind.
func TestTakeKind(t *testing.T) {
	for _, k := range []int{0, 10, 11, 127, 128, 257, 1<<32 + 1, api.MaxNum} {
		for _, behind := range [][]byte{nil, {0}, {0x80, 0}, {1, 2, 3}} {
			wantTakeErrno(t, lay(1, k, behind), api.ErrForm)
			wantTakeErrno(t, lay(2, 8, 1, k, behind), api.ErrForm)
		}
	}
	// A wrong one ahead is told first.
	wantTakeErrno(t, lay(2, 4, "a", 0, 10), api.ErrArg)
}

// wrongNums are numbers in bytes that octet refuses, and its error.
var wrongNums = map[string]api.Errno{
	"\x80\x80\x80\x80\x80\x80\x80\x10": api.ErrLimit,
	"\xff\xff\xff\xff\xff\xff\xff\xff": api.ErrLimit,
	"\x80\x00":                         api.ErrForm,
	"\x85\x80\x00":                     api.ErrForm,
}

// P13.3: octet's errors, in each number of each kind: the bytes ahead are right.
func TestTakeOctetErrors(t *testing.T) {
	s := api.Sum{5}
	for _, ahead := range [][]byte{
		{}, lay(1), lay(2, 8, 1),
		lay(1, api.Laid), lay(1, api.Laid, 1), lay(1, api.Laid, 1, 1), lay(1, api.Freed),
		lay(1, api.Filed), lay(1, api.Filed, "a"), lay(1, api.Filed, "a", 1), lay(1, api.Filed, "a", 1, 1),
		lay(1, api.Filed, "a", 1, 1, 1, s), lay(1, api.Filed, "a", 1, 1, 1, s, 1), lay(1, api.Filed, "a", 1, 1, 1, s, 1, 1),
		lay(1, api.Dropped), lay(1, api.Dropped, "a"),
		lay(1, api.Snapped), lay(1, api.Snapped, "a"), lay(1, api.Snapped, "a", 1), lay(1, api.Snapped, "a", 1, 1), lay(1, api.Snapped, "a", 1, 1, "b"),
		lay(1, api.Unsnapped),
		lay(1, api.Moved), lay(1, api.Moved, 1), lay(1, api.Moved, 1, 1), lay(1, api.Moved, 1, 1, 1), lay(1, api.Moved, 1, 1, 1, 1),
		lay(1, api.Ticked), lay(1, api.Expired), lay(1, api.Expired, 1), lay(1, api.Expired, 1, 1), lay(1, api.Expired, 1, 1, 1),
	} {
		for num, want := range wrongNums {
			wantTakeErrno(t, lay(ahead, []byte(num)), want)
			wantTakeErrno(t, lay(ahead, []byte(num), bytes.Repeat([]byte{1}, 50)), want)
		}
	}
}

// P13.3: more than may be is told where the number stands, ahead of what is wrong elsewhere in the fact.
func TestTakeLimits(t *testing.T) {
	for _, behind := range [][]byte{nil, {0x80, 0}, bytes.Repeat([]byte{1}, 100), make([]byte, 20000)} {
		for _, n := range []int{257, 1 << 20, api.MaxNum} {
			wantTakeErrno(t, lay(1, api.Filed, "a", 1, 1, n, behind), api.ErrLimit)
			wantTakeErrno(t, lay(1, api.Filed, " ", 0, 1, n, behind), api.ErrLimit)
		}
		for _, n := range []int{65, 1 << 20, api.MaxNum} {
			wantTakeErrno(t, lay(1, api.Snapped, "a", 1, n, behind), api.ErrLimit)
			wantTakeErrno(t, lay(1, api.Snapped, "", 1, n, behind), api.ErrLimit)
			wantTakeErrno(t, lay(1, api.Moved, n, behind), api.ErrLimit)
		}
		for _, n := range []int{33, 128, 1 << 20, api.MaxNum} {
			for _, kind := range []api.Kind{api.Filed, api.Dropped, api.Snapped, api.Unsnapped} {
				wantTakeErrno(t, lay(1, kind, n, behind), api.ErrLimit)
			}
			wantTakeErrno(t, lay(1, api.Snapped, "a", 1, 2, "a", 1, n, behind), api.ErrLimit)
		}
	}
	wantTakeErrno(t, lay(1, api.Unsnapped, strings.Repeat("n", 33)), api.ErrLimit)
}

// P13.3: Check's error is told behind each fact: ahead of what is wrong behind it, but behind what is wrong with its own bytes.
func TestTakeWrongFact(t *testing.T) {
	s := api.Sum{5}
	for _, bad := range [][]byte{
		lay(api.Laid, 4096, 1, 2), lay(api.Laid, 1, 4096, 2), lay(api.Laid, 1, 1, 1), lay(api.Laid, 1, 1, 65), lay(api.Freed, 4096),
		lay(api.Filed, "", 1, 1, 0), lay(api.Filed, "a b", 1, 1, 0), lay(api.Filed, "a", 0, 1, 0),
		lay(api.Filed, "a", 1, 1, 1, s, 0, 1, 1), lay(api.Filed, "a", 1, 1, 1, s, 513, 1, 1), lay(api.Filed, "a", 1, 1, 1, s, 1, 4096, 1), lay(api.Filed, "a", 1, 1, 1, s, 1, 1, 64),
		lay(api.Dropped, "", 1), lay(api.Dropped, "a", 0), lay(api.Snapped, "", 1, 0), lay(api.Snapped, "a", 1, 1, "", 1), lay(api.Snapped, "a", 1, 1, "b", 0),
		lay(api.Unsnapped, ""), lay(api.Unsnapped, "\x80"), lay(api.Moved, 0), lay(api.Moved, 1, 4096, 0, 0, 0), lay(api.Moved, 1, 0, 64, 0, 0), lay(api.Moved, 1, 0, 0, 4096, 0), lay(api.Moved, 1, 0, 0, 0, 64),
		lay(api.Expired, 1, 1, 0, 1), lay(api.Expired, 0, 0, 0, 0), lay(api.Laid, api.MaxNum, api.MaxNum, api.MaxNum),
	} {
		wantTakeErrno(t, lay(1, bad), api.ErrArg)
		wantTakeErrno(t, lay(1, bad, 0), api.ErrArg)
		wantTakeErrno(t, lay(2, bad), api.ErrArg)
		wantTakeErrno(t, lay(2, bad, 0), api.ErrArg)
		wantTakeErrno(t, lay(2, bad, []byte{0x80, 0}), api.ErrArg)
		wantTakeErrno(t, lay(2, 8, 1, bad), api.ErrArg)
		wantTakeErrno(t, lay(2, 10, bad), api.ErrForm)
		wantTakeErrno(t, lay(2, api.Unsnapped, 33, bad), api.ErrLimit)
		wantTakeErrno(t, lay(1, bad[:len(bad)-1]), api.ErrShort)
	}
	wantTakeErrno(t, lay(1, api.Filed, "", 0, 1, 1, s, 0, 1, []byte{0x80, 0}), api.ErrForm)
	wantTakeErrno(t, lay(1, api.Filed, "", 0, 1, 2, s, 0, 1, 1, s[:31]), api.ErrShort)
	wantTakeErrno(t, lay(1, api.Snapped, "", 1, 2, "", 0, 33), api.ErrLimit)
}

// P13.1: facts with wrong parts of all kinds, against the chapter's words.
func TestCheckAny(t *testing.T) {
	r := rand.New(rand.NewSource(3))
	met := map[api.Errno]int{}
	for range 60000 {
		f := randomFact(r, 3)
		for range r.Intn(3) {
			spoil(r, &f)
		}
		e := record.Check(f)
		met[e]++
		if want := plainCheck(f); e != want {
			t.Fatalf("Check(%+v): %d, want %d", f, e, want)
		}
		b, put := record.Put([]api.Fact{f})
		if put != e || e == api.OK && !bytes.Equal(b, plainPut([]api.Fact{f})) || e != api.OK && len(b) != 0 {
			t.Fatalf("Put(%+v): % x, %d", f, b, put)
		}
	}
	for _, e := range []api.Errno{api.OK, api.ErrForm, api.ErrArg, api.ErrLimit} {
		if met[e] < 100 {
			t.Error("met", met)
		}
	}
}

// spoil makes one part of a fact any other.
func spoil(r *rand.Rand, f *api.Fact) {
	n := edges[r.Intn(len(edges))]
	name := []string{"", "a", " ", "é", strings.Repeat("n", 32), strings.Repeat("n", 33)}[r.Intn(6)]
	numbers := []*int{&f.Place.Bin, &f.Place.Run.At, &f.Place.Run.N, &f.Gen, &f.Time, &f.Keep.Last, &f.Keep.Young, &f.Keep.Step, &f.Keep.Count}
	names := []*string{&f.Name}
	for i := range f.Refs {
		numbers = append(numbers, &f.Refs[i].Len, &f.Refs[i].Bin, &f.Refs[i].Slot)
	}
	for i := range f.Held {
		numbers = append(numbers, &f.Held[i].Gen)
		names = append(names, &f.Held[i].Name)
	}
	for i := range f.Moves {
		numbers = append(numbers, &f.Moves[i].From.Bin, &f.Moves[i].From.Slot, &f.Moves[i].To.Bin, &f.Moves[i].To.Slot)
	}
	switch r.Intn(8) {
	case 0:
		f.Kind = api.Kind(n)
	case 1:
		f.Refs = append(f.Refs, many(250+r.Intn(10), ref(1, 1, 1, 1))...)
	case 2:
		f.Held = append(f.Held, many(60+r.Intn(8), api.Held{Name: "h", Gen: 1})...)
	case 3:
		f.Moves = append(f.Moves, many(60+r.Intn(8), move(1, 1, 1, 1))...)
	case 4:
		*names[r.Intn(len(names))] = name
	default:
		*numbers[r.Intn(len(numbers))] = n
	}
}

// P13.3, P13.4, P1: bytes of any kind, and those of facts with some changed: each answer is that of the chapter's words, and what is taken is put as it was.
func TestTakeAny(t *testing.T) {
	r := rand.New(rand.NewSource(4))
	met := map[api.Errno]int{}
	for range 60000 {
		b := plainPut(randomFacts(r, 1+r.Intn(4), 3))
		switch r.Intn(5) {
		case 0:
			b = make([]byte, r.Intn(60))
			r.Read(b)
		case 1:
			b = b[:r.Intn(len(b)+1)]
		case 2:
			b = append(b, byte(r.Intn(256)))
		}
		for range r.Intn(4) {
			if len(b) > 0 {
				b[r.Intn(len(b))] = byte(r.Intn(256) >> r.Intn(8))
			}
		}
		l, e := record.Take(b)
		met[e]++
		want, wantE := plainTake(b)
		if e != wantE || !reflect.DeepEqual(l, want) {
			t.Fatalf("Take(% x): %+v, %d; want %+v, %d", b, l, e, want, wantE)
		}
		if again, put := record.Put(l); e == api.OK && (put != api.OK || !bytes.Equal(again, b)) {
			t.Fatalf("% x is put as % x, %d", b, again, put)
		}
	}
	for _, e := range []api.Errno{api.OK, api.ErrForm, api.ErrArg, api.ErrLimit, api.ErrShort} {
		if met[e] < 100 {
			t.Error("met", met)
		}
	}
}

// P3: what is handed in stays as it is, with the room behind it; what is answered is new memory, also of one list against another.
func TestMemory(t *testing.T) {
	l, same := byKind(), byKind()
	for i := range l {
		l[i].Refs = append(l[i].Refs, ref(9, 9, 9, 9))[:len(l[i].Refs)]
	}
	b, _ := record.Put(l)
	again, _ := record.Put(l)
	if !reflect.DeepEqual(trimmed(l), same) || l[2].Refs[:3][2] != ref(9, 9, 9, 9) {
		t.Error("facts that were handed in are changed")
	}
	clear(again[:cap(again)])
	wantTake(t, b, same)
	room := append(bytes.Clone(b), "behind"...)
	got, _ := record.Take(room[:len(b)])
	if !bytes.Equal(room, append(bytes.Clone(b), "behind"...)) {
		t.Error("bytes that were handed in are changed")
	}
	other, _ := record.Take(b)
	clear(room)
	if !reflect.DeepEqual(got, same) {
		t.Error("facts lie in the bytes")
	}
	for _, f := range got {
		clear(f.Refs[:cap(f.Refs)])
		clear(f.Held[:cap(f.Held)])
		clear(f.Moves[:cap(f.Moves)])
	}
	clear(got[:cap(got)])
	if !reflect.DeepEqual(other, same) {
		t.Error("two answers share memory")
	}
	wantTake(t, b, same)
}

// trimmed is facts whose empty lists are nil.
func trimmed(l []api.Fact) []api.Fact {
	l = slices.Clone(l)
	for i := range l {
		if len(l[i].Refs) == 0 {
			l[i].Refs = nil
		}
	}
	return l
}

// P3: the lists of one answer share no memory: what stands behind one's end is not another one's.
func TestListsApart(t *testing.T) {
	l := []api.Fact{
		{Kind: api.Filed, Name: "a", Gen: 1, Refs: many(3, ref(1, 1, 1, 1))}, {Kind: api.Filed, Name: "b", Gen: 1, Refs: many(3, ref(2, 1, 1, 1))},
		{Kind: api.Moved, Moves: many(3, move(1, 1, 1, 1))}, {Kind: api.Moved, Moves: many(3, move(2, 2, 2, 2))},
		{Kind: api.Snapped, Name: "a", Held: many(3, api.Held{Name: "a", Gen: 1})}, {Kind: api.Snapped, Name: "b", Held: many(3, api.Held{Name: "b", Gen: 1})},
	}
	got, _ := record.Take(plainPut(l))
	for i := 0; i < len(got); i += 2 {
		_ = append(got[i].Refs, ref(9, 9, 9, 9))
		_ = append(got[i].Held, api.Held{Name: "x"})
		_ = append(got[i].Moves, move(9, 9, 9, 9))
	}
	if !reflect.DeepEqual(got, l) {
		t.Errorf("%+v", got)
	}
}

// P6: nothing is kept between calls: what went wrong ahead plays no part.
func TestNothingKept(t *testing.T) {
	b := plainPut(byKind())
	for n := range b {
		record.Take(b[:n])
		record.Put([]api.Fact{{Kind: api.Kind(n)}})
		wantTake(t, b, byKind())
		wantPut(t, byKind(), b)
	}
}
