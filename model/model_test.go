package model_test

import (
	"bytes"
	"fmt"
	"math"
	"slices"
	"strings"
	"testing"

	"aumbry/api"
	"aumbry/model"
)

func begin(name string) api.Op { return api.Op{Do: api.Begin, Name: name} }

func write(n int, text string) api.Op { return api.Op{Do: api.Write, N: n, Bytes: []byte(text)} }

func number(do api.Do, n int) api.Op { return api.Op{Do: do, N: n} }

func file(do api.Do, name string, gen int) api.Op { return api.Op{Do: do, Name: name, Gen: gen} }

func part(name string, gen, from, size int) api.Op {
	return api.Op{Do: api.Range, Name: name, Gen: gen, From: from, Size: size}
}

func shot(do api.Do, name string) api.Op { return api.Op{Do: do, Shot: name} }

func shown(s, name string) api.Op { return api.Op{Do: api.Shown, Shot: s, Name: name} }

func expire(last, young, step, count int) api.Op {
	return api.Op{Do: api.Expire, Keep: api.Keep{Last: last, Young: young, Step: step, Count: count}}
}

func sameAnswer(a, b api.Answer) bool {
	return a.Errno == b.Errno && a.N == b.N && bytes.Equal(a.Bytes, b.Bytes) && slices.Equal(a.Names, b.Names)
}

// answers holds an answer against what it ought to be.
func answers(t *testing.T, m *model.Model, o api.Op, space bool, want api.Answer) {
	t.Helper()
	if a := m.Do(o, space); !sameAnswer(a, want) {
		t.Fatalf("Do(%+v, %t): %+v, not %+v", o, space, a, want)
	}
}

// refuses: an error, and nothing of the files is changed (P21.3).
func refuses(t *testing.T, m *model.Model, o api.Op, space bool, e api.Errno) {
	t.Helper()
	ahead := m.Fork()
	answers(t, m, o, space, api.Answer{Errno: e})
	if !m.Same(ahead) {
		t.Fatalf("Do(%+v, %t) changed files", o, space)
	}
}

// ok does what answers OK, and N.
func ok(t *testing.T, m *model.Model, o api.Op) int {
	t.Helper()
	a := m.Do(o, false)
	if a.Errno != api.OK || len(a.Bytes) > 0 || len(a.Names) > 0 {
		t.Fatalf("Do(%+v): %+v", o, a)
	}
	return a.N
}

// put commits a file.
func put(t *testing.T, m *model.Model, name, text string) int {
	t.Helper()
	n := ok(t, m, begin(name))
	ok(t, m, write(n, text))
	return ok(t, m, number(api.Commit, n))
}

// P21.1, and the chapter's example.
func TestExample(t *testing.T) {
	m := model.New(0)
	answers(t, m, begin("a"), false, api.Answer{N: 1})
	answers(t, m, write(1, "xy"), false, api.Answer{})
	answers(t, m, number(api.Commit, 1), false, api.Answer{N: 1})
	answers(t, m, file(api.Read, "a", 0), false, api.Answer{Bytes: []byte("xy")})
	answers(t, m, part("a", 0, 1, 9), false, api.Answer{Bytes: []byte("y")})
}

// P21.1: New has no files, no sessions, and the time 0.
func TestNew(t *testing.T) {
	m := model.New(7)
	if m == nil || len(m.Names()) != 0 || len(m.Sessions()) != 0 || !m.Same(model.New(9)) {
		t.Fatal("a new one has something")
	}
	answers(t, m, number(api.List, 0), false, api.Answer{})
	answers(t, m, number(api.Tick, api.MaxNum), false, api.Answer{})
}

// P21.1: Begin, its errors, and numbers that count all that began.
func TestBegin(t *testing.T) {
	m := model.New(0)
	for _, name := range []string{"", " ", "a b", "a\x7f", "a\n", strings.Repeat("a", 33), "ä"} {
		refuses(t, m, begin(name), false, api.ErrArg)
	}
	answers(t, m, begin(strings.Repeat("~", 32)), true, api.Answer{N: 1})
	for n := 2; n <= api.MaxOpen; n++ {
		answers(t, m, begin("!"), false, api.Answer{N: n})
	}
	refuses(t, m, begin("a"), false, api.ErrLimit)
	refuses(t, m, begin(""), false, api.ErrArg)
	ok(t, m, number(api.Abort, 2))
	answers(t, m, begin("a"), false, api.Answer{N: 5})
	if l := m.Sessions(); !slices.Equal(l, []int{1, 3, 4, 5}) {
		t.Fatal(l)
	}
	m.Fall()
	answers(t, m, begin("a"), false, api.Answer{N: 6})
	if l := m.Sessions(); !slices.Equal(l, []int{6}) {
		t.Fatal(l)
	}
}

// P21.1: sessions that are not there, and Abort.
func TestAbort(t *testing.T) {
	m := model.New(0)
	n := ok(t, m, begin("a"))
	for _, do := range []api.Do{api.Abort, api.Write, api.Commit} {
		for _, wrong := range []int{0, n + 1, -1, math.MaxInt, math.MinInt} {
			refuses(t, m, number(do, wrong), true, api.ErrGone)
		}
	}
	answers(t, m, number(api.Abort, n), true, api.Answer{})
	refuses(t, m, number(api.Abort, n), false, api.ErrGone)
	answers(t, m, number(api.List, 0), false, api.Answer{})
}

// P21.1: Write holds bytes against MaxFile, then against the quota, then there is no room; behind each of these the session is gone.
func TestWrite(t *testing.T) {
	most := strings.Repeat("x", api.MaxFile)
	m := model.New(0)
	n := ok(t, m, begin("a"))
	ok(t, m, write(n, most[1:]))
	ok(t, m, write(n, ""))
	ok(t, m, write(n, "y"))
	ok(t, m, write(n, ""))
	if ok(t, m, number(api.Commit, n)) != 1 {
		t.Fatal("not the first one")
	}
	answers(t, m, file(api.Read, "a", 1), false, api.Answer{Bytes: []byte(most[1:] + "y")})
	n = ok(t, m, begin("a"))
	ok(t, m, write(n, most))
	refuses(t, m, write(n, "y"), true, api.ErrLimit)
	refuses(t, m, write(n, ""), false, api.ErrGone)
	n = ok(t, m, begin("a"))
	refuses(t, m, write(n, most+"y"), false, api.ErrLimit)
	refuses(t, m, number(api.Commit, n), false, api.ErrGone)
	n = ok(t, m, begin("a"))
	refuses(t, m, write(n, "y"), true, api.ErrSpace)
	refuses(t, m, number(api.Abort, n), false, api.ErrGone)
	refuses(t, m, number(api.Write, n), true, api.ErrGone)
}

// P21.1: the quota counts all generations, those that are gone too, and all sessions.
func TestQuota(t *testing.T) {
	m := model.New(20)
	put(t, m, "a", "12345")
	ok(t, m, shot(api.Snap, "s"))
	ok(t, m, file(api.Delete, "a", 0))
	put(t, m, "b", "12345")
	other := ok(t, m, begin("c"))
	ok(t, m, write(other, "12345"))
	n := ok(t, m, begin("d"))
	ok(t, m, write(n, "12345"))
	ok(t, m, write(n, ""))
	refuses(t, m, write(n, "6"), true, api.ErrQuota)
	refuses(t, m, write(n, "6"), false, api.ErrGone)
	n = ok(t, m, begin("d"))
	refuses(t, m, write(n, "123456"), false, api.ErrQuota)
	n = ok(t, m, begin("d"))
	refuses(t, m, write(n, strings.Repeat("x", api.MaxFile+1)), false, api.ErrLimit)
	n = ok(t, m, begin("d"))
	ok(t, m, shot(api.Unsnap, "s"))
	ok(t, m, write(n, "1234567890"))
	least := model.New(1)
	put(t, least, "a", "1")
	refuses(t, least, write(ok(t, least, begin("b")), "2"), false, api.ErrQuota)
	for _, quota := range []int{0, -1, math.MinInt, math.MaxInt} {
		put(t, model.New(quota), "a", "12345")
	}
}

// P21.1: Commit, its generations, and their limits.
func TestCommit(t *testing.T) {
	m := model.New(0)
	for gen := 1; gen <= api.MaxGens; gen++ {
		if n := put(t, m, "a", fmt.Sprint(gen)); n != gen {
			t.Fatal(n)
		}
	}
	n := ok(t, m, begin("a"))
	refuses(t, m, number(api.Commit, n), true, api.ErrLimit)
	refuses(t, m, number(api.Commit, n), true, api.ErrGone)
	ok(t, m, shot(api.Snap, "s"))
	ok(t, m, file(api.Delete, "a", 0))
	n = ok(t, m, begin("a"))
	refuses(t, m, number(api.Commit, n), false, api.ErrLimit) // the one that is gone is there still
	ok(t, m, file(api.Delete, "a", 3))
	if n := put(t, m, "a", ""); n != api.MaxGens+1 {
		t.Fatal("one above all that are there", n)
	}
	answers(t, m, file(api.Read, "a", 0), false, api.Answer{})
	for i := 1; i < api.MaxFiles; i++ {
		put(t, m, fmt.Sprint("f", i), "x")
	}
	n = ok(t, m, begin("more"))
	refuses(t, m, number(api.Commit, n), true, api.ErrLimit)
	refuses(t, m, number(api.Abort, n), false, api.ErrGone)
	if n := put(t, m, "f1", "y"); n != 2 {
		t.Fatal("a file that is there", n)
	}
	n = ok(t, m, begin("f1"))
	refuses(t, m, number(api.Commit, n), true, api.ErrSpace)
	refuses(t, m, number(api.Commit, n), false, api.ErrGone)
	ok(t, m, file(api.Delete, "f1", 0))
	ok(t, m, file(api.Delete, "f1", 0))
	if n := put(t, m, "more", "z"); n != 1 {
		t.Fatal("a file in the place of another one", n)
	}
	ok(t, m, file(api.Delete, "f2", 0))
	if n := put(t, m, "f1", "y"); n != 1 {
		t.Fatal("a file that was gone begins anew", n)
	}
}

// P21.1: Read, Range and Stat.
func TestReads(t *testing.T) {
	m := model.New(0)
	put(t, m, "a", "one")
	put(t, m, "a", "second")
	put(t, m, "a", "3")
	ok(t, m, shot(api.Snap, "s"))
	ok(t, m, file(api.Delete, "a", 3))
	for gen, text := range map[int]string{0: "second", 1: "one", 2: "second"} {
		answers(t, m, file(api.Read, "a", gen), true, api.Answer{Bytes: []byte(text)})
		answers(t, m, file(api.Stat, "a", gen), true, api.Answer{N: len(text)})
		for from := range len(text) + 1 {
			for _, size := range []int{0, 1, 2, len(text), math.MaxInt} {
				answers(t, m, part("a", gen, from, size), true, api.Answer{Bytes: []byte(text)[from:min(len(text), from+min(size, 9))]})
			}
			refuses(t, m, part("a", gen, from, -1), false, api.ErrArg)
			refuses(t, m, part("a", gen, from, math.MinInt), false, api.ErrArg)
		}
		for _, from := range []int{-1, len(text) + 1, math.MaxInt, math.MinInt} {
			refuses(t, m, part("a", gen, from, 0), false, api.ErrArg)
		}
	}
	for _, do := range []api.Do{api.Read, api.Stat, api.Delete} {
		for _, gen := range []int{3, 4, -1, math.MaxInt, math.MinInt} {
			refuses(t, m, file(do, "a", gen), true, api.ErrGone)
		}
		refuses(t, m, file(do, "b", 0), false, api.ErrGone)
		refuses(t, m, file(do, "", 1), false, api.ErrGone)
	}
	refuses(t, m, part("a", 3, -1, -1), false, api.ErrGone)
	refuses(t, m, part("", 0, 0, 0), false, api.ErrGone)
}

// P21.1: List tells the greatest live generations, by their names.
func TestList(t *testing.T) {
	m := model.New(0)
	for _, name := range []string{"b", "a", "c", "a", "B", "~", "d"} {
		put(t, m, name, "x")
	}
	ok(t, m, shot(api.Snap, "s"))
	ok(t, m, file(api.Delete, "a", 2))
	ok(t, m, file(api.Delete, "d", 0))
	want := []api.Held{{Name: "B", Gen: 1}, {Name: "a", Gen: 1}, {Name: "b", Gen: 1}, {Name: "c", Gen: 1}, {Name: "~", Gen: 1}}
	answers(t, m, number(api.List, 0), true, api.Answer{Names: want})
	if l := m.Names(); !slices.Equal(l, want) {
		t.Fatal(l)
	}
}

// P21.1, P21.4: snapshots, what they show, and how long.
func TestSnapshots(t *testing.T) {
	m := model.New(0)
	put(t, m, "a", "one")
	put(t, m, "a", "two")
	ok(t, m, shot(api.Snap, "s"))
	put(t, m, "a", "three")
	put(t, m, "b", "new")
	ok(t, m, shot(api.Snap, "r"))
	see := func(s, name, text string) {
		t.Helper()
		answers(t, m, shown(s, name), true, api.Answer{Bytes: []byte(text)})
		if b, e := m.Shot(s, name); e != api.OK || string(b) != text {
			t.Fatal(string(b), e)
		}
	}
	hidden := func(s, name string) {
		t.Helper()
		refuses(t, m, shown(s, name), true, api.ErrGone)
		if b, e := m.Shot(s, name); e != api.ErrGone || b != nil {
			t.Fatal(string(b), e)
		}
	}
	see("s", "a", "two")
	hidden("s", "b")
	hidden("q", "a")
	hidden("", "")
	see("r", "a", "three")
	see("r", "b", "new")
	for gen := 1; gen <= 3; gen++ {
		ok(t, m, file(api.Delete, "a", gen))
	}
	refuses(t, m, file(api.Read, "a", 0), false, api.ErrGone)
	see("s", "a", "two")
	see("r", "a", "three")
	if n := put(t, m, "a", "four"); n != 4 {
		t.Fatal("generations that are held are there", n)
	}
	ok(t, m, file(api.Delete, "a", 4))
	ok(t, m, shot(api.Unsnap, "r"))
	hidden("r", "a")
	see("s", "a", "two")
	if n := put(t, m, "a", "again"); n != 3 {
		t.Fatal("one above those that are there", n)
	}
	answers(t, m, file(api.Read, "b", 1), false, api.Answer{Bytes: []byte("new")})
}

// P21.1: the errors of Snap and Unsnap, in their order.
func TestSnapErrors(t *testing.T) {
	m := model.New(0)
	for i := range api.MaxSnaps {
		refuses(t, m, shot(api.Snap, "s0 "), true, api.ErrArg)
		refuses(t, m, shot(api.Snap, fmt.Sprint("s", i)), true, api.ErrSpace)
		answers(t, m, shot(api.Snap, fmt.Sprint("s", i)), false, api.Answer{})
		refuses(t, m, shot(api.Snap, "s0"), true, api.ErrKnown)
	}
	refuses(t, m, shot(api.Snap, "more"), true, api.ErrLimit)
	refuses(t, m, shot(api.Snap, ""), false, api.ErrArg)
	refuses(t, m, shot(api.Unsnap, ""), true, api.ErrArg)
	refuses(t, m, shot(api.Unsnap, strings.Repeat("s", 33)), false, api.ErrArg)
	refuses(t, m, shot(api.Unsnap, "more"), true, api.ErrGone)
	answers(t, m, shot(api.Unsnap, "s3"), true, api.Answer{})
	refuses(t, m, shot(api.Unsnap, "s3"), false, api.ErrGone)
	answers(t, m, shot(api.Snap, "more"), false, api.Answer{})
}

// P21.1: the time goes on, up to MaxNum.
func TestTick(t *testing.T) {
	m := model.New(0)
	for _, n := range []int{-1, api.MaxNum + 1, math.MaxInt, math.MinInt} {
		refuses(t, m, number(api.Tick, n), true, api.ErrArg)
	}
	ahead := m.Fork()
	answers(t, m, number(api.Tick, 0), true, api.Answer{})
	if !m.Same(ahead) {
		t.Fatal("0 is not no time")
	}
	answers(t, m, number(api.Tick, 5), true, api.Answer{})
	if m.Same(ahead) || ahead.Same(m) {
		t.Fatal("the time is another one")
	}
	refuses(t, m, number(api.Tick, api.MaxNum-4), false, api.ErrArg)
	answers(t, m, number(api.Tick, api.MaxNum-5), false, api.Answer{})
	refuses(t, m, number(api.Tick, 1), false, api.ErrArg)
	answers(t, m, number(api.Tick, 0), false, api.Answer{})
}

// P21.1: what is not in its range for Clean and Expire, and what is none.
func TestRanges(t *testing.T) {
	m := model.New(0)
	put(t, m, "a", "x")
	for _, n := range []int{-1, 101, math.MaxInt, math.MinInt} {
		refuses(t, m, number(api.Clean, n), true, api.ErrArg)
	}
	for _, n := range []int{0, 1, 100} {
		answers(t, m, number(api.Clean, n), false, api.Answer{})
		refuses(t, m, number(api.Clean, n), true, api.ErrSpace)
	}
	const over = api.MaxNum + 1
	for _, o := range []api.Op{expire(-1, 0, 1, 0), expire(over, 0, 1, 0), expire(0, -1, 1, 0), expire(0, over, 1, 0), expire(0, 0, 0, 0), expire(0, 0, -1, 0), expire(0, 0, over, 0), expire(0, 0, 1, -1), expire(0, 0, 1, over), expire(math.MinInt, math.MaxInt, math.MinInt, 0)} {
		refuses(t, m, o, true, api.ErrArg)
	}
	answers(t, m, expire(api.MaxNum, api.MaxNum, api.MaxNum, api.MaxNum), true, api.Answer{})
	for _, do := range []api.Do{api.NoDo, -1, api.Rot + 1, math.MaxInt, math.MinInt} {
		refuses(t, m, api.Op{Do: do}, true, api.ErrForm)
	}
}

// P21.1, P21.5: what only tells, and what a map does not know, changes nothing; sessions stay.
func TestNothingChanges(t *testing.T) {
	m := model.New(0)
	put(t, m, "a", "x")
	n := ok(t, m, begin("b"))
	ok(t, m, write(n, "y"))
	ahead := m.Fork()
	for _, do := range []api.Do{api.Scrub, api.Rebuild, api.Trip, api.Fall, api.Mount, api.Rot} {
		for _, n := range []int{0, -1, n, 999} {
			answers(t, m, api.Op{Do: do, N: n, Name: "a", Bytes: []byte("z")}, true, api.Answer{})
		}
	}
	m.Do(file(api.Read, "a", 0), false)
	m.Do(part("a", 0, 0, 1), false)
	m.Do(file(api.Stat, "a", 0), false)
	m.Do(number(api.List, 0), false)
	m.Do(shown("s", "a"), false)
	m.Do(number(api.Clean, 100), false)
	if !m.Same(ahead) || !slices.Equal(m.Sessions(), []int{n}) {
		t.Fatal("changed")
	}
	if ok(t, m, number(api.Commit, n)) != 1 {
		t.Fatal("the session is another one")
	}
	answers(t, m, file(api.Read, "b", 0), false, api.Answer{Bytes: []byte("y")})
}

// P21.1: Expire, by each of its three rules alone.
func TestExpire(t *testing.T) {
	made := func() *model.Model {
		m := model.New(0)
		for gen := range 6 { // times 0, 0, 10, 10, 20, 20
			put(t, m, "a", fmt.Sprint(gen+1))
			put(t, m, "b"+fmt.Sprint(gen/3), "x") // b0: 0 0 10, b1: 10 20 20
			if gen%2 == 1 {
				ok(t, m, number(api.Tick, 10))
			}
		}
		return m // it is 30
	}
	stays := func(o api.Op, want ...string) {
		t.Helper()
		m := made()
		a := m.Do(o, true)
		var got []string
		for _, name := range []string{"a", "b0", "b1"} {
			for gen := 1; gen <= 6; gen++ {
				if _, e := m.Bytes(name, gen); e == api.OK {
					got = append(got, fmt.Sprint(name, gen))
				}
			}
		}
		if a.Errno != api.OK || a.N != 12-len(want) || !slices.Equal(got, want) {
			t.Fatal(o.Keep, a.N, got, want)
		}
	}
	stays(expire(0, 0, 1, 0))
	stays(expire(1, 0, 1, 0), "a6", "b03", "b13")
	stays(expire(2, 0, 1, 0), "a5", "a6", "b02", "b03", "b12", "b13")
	stays(expire(0, 10, 1, 0))
	stays(expire(0, 11, 1, 0), "a5", "a6", "b12", "b13")
	stays(expire(0, 20, 1, 0), "a5", "a6", "b12", "b13")
	stays(expire(0, 21, 1, 0), "a3", "a4", "a5", "a6", "b03", "b11", "b12", "b13")
	stays(expire(0, 0, 10, 1), "a6", "b03", "b13")
	stays(expire(0, 0, 10, 2), "a4", "a6", "b02", "b03", "b11", "b13")
	stays(expire(0, 0, 10, 3), "a2", "a4", "a6", "b02", "b03", "b11", "b13")
	stays(expire(0, 0, 11, 9), "a4", "a6", "b03", "b11", "b13")
	stays(expire(0, 0, 20, 9), "a4", "a6", "b03", "b11", "b13")
	stays(expire(0, 0, 21, 9), "a6", "b03", "b13")
	stays(expire(1, 21, 10, 3), "a2", "a3", "a4", "a5", "a6", "b02", "b03", "b11", "b12", "b13")
}

// P21.1: what a snapshot holds, and is gone, plays no part in what stays, and is not counted twice.
func TestExpireHeld(t *testing.T) {
	m := model.New(0)
	put(t, m, "a", "1")
	put(t, m, "a", "2")
	ok(t, m, shot(api.Snap, "s"))
	ok(t, m, file(api.Delete, "a", 2))
	answers(t, m, expire(1, 0, 1, 0), false, api.Answer{})
	answers(t, m, expire(0, 0, 1, 1), false, api.Answer{})
	answers(t, m, expire(0, 0, 1, 0), false, api.Answer{N: 1})
	answers(t, m, expire(0, 0, 1, 0), false, api.Answer{})
	answers(t, m, shown("s", "a"), false, api.Answer{Bytes: []byte("2")})
	put(t, m, "b", "1")
	ok(t, m, shot(api.Snap, "r"))
	answers(t, m, expire(0, 0, 1, 0), false, api.Answer{N: 1})
	answers(t, m, shown("r", "b"), false, api.Answer{Bytes: []byte("1")})
}

// P21.2: Bytes tells what a Read tells.
func TestBytes(t *testing.T) {
	m := model.New(0)
	put(t, m, "a", "one")
	put(t, m, "a", "two")
	for gen, want := range map[int]string{0: "two", 1: "one", 2: "two"} {
		if b, e := m.Bytes("a", gen); e != api.OK || string(b) != want {
			t.Fatal(string(b), e)
		}
	}
	if b, e := m.Bytes("a", 3); e != api.ErrGone || b != nil {
		t.Fatal(b, e)
	}
}

// P21.2: Same looks at all of the files and snapshots, and at nothing else.
func TestSame(t *testing.T) {
	made := func() *model.Model {
		m := model.New(0)
		put(t, m, "a", "1")
		put(t, m, "b", "2")
		ok(t, m, number(api.Tick, 1))
		put(t, m, "b", "3")
		ok(t, m, shot(api.Snap, "s"))
		return m
	}
	for i, ops := range [][]api.Op{
		{begin("c"), write(4, "x"), number(api.Commit, 4)},
		{begin("a"), number(api.Commit, 4)},
		{file(api.Delete, "b", 1)},
		{file(api.Delete, "b", 2)},
		{file(api.Delete, "a", 1)},
		{shot(api.Unsnap, "s")},
		{shot(api.Snap, "r")},
		{shot(api.Unsnap, "s"), shot(api.Snap, "r")},
		{shot(api.Unsnap, "s"), file(api.Delete, "b", 2), shot(api.Snap, "s"), begin("b"), write(4, "3"), number(api.Commit, 4)},
		{number(api.Tick, 1)},
		{shot(api.Unsnap, "s"), file(api.Delete, "a", 1), begin("a"), write(4, "1"), number(api.Commit, 4), shot(api.Snap, "s")},
		{shot(api.Unsnap, "s"), file(api.Delete, "a", 1), begin("a"), write(4, "2"), number(api.Commit, 4), shot(api.Snap, "s")},
	} {
		m, n := made(), made()
		for _, o := range ops {
			ok(t, n, o)
		}
		if m.Same(n) || n.Same(m) {
			t.Error(i, "two that are not alike")
		}
	}
	m, n := model.New(0), model.New(0)
	put(t, m, "a", "1")
	put(t, n, "a", "1")
	put(t, n, "a", "1")
	ok(t, n, file(api.Delete, "a", 1))
	if m.Same(n) || n.Same(m) {
		t.Error("another generation")
	}
	m, n = made(), model.New(0)
	put(t, n, "b", "2")
	k := ok(t, n, begin("b"))
	ok(t, n, begin("x"))
	put(t, n, "a", "1")
	ok(t, n, write(k, "3"))
	ok(t, n, number(api.Tick, 1))
	ok(t, n, number(api.Commit, k))
	ok(t, n, shot(api.Snap, "s"))
	if !m.Same(n) || !n.Same(m) || !m.Same(m) {
		t.Error("sessions, and the order in which they came, play no part")
	}
}

// P1, P21.2: nil answers as the chapter says, and so does one that no call made.
func TestNil(t *testing.T) {
	for _, m := range []*model.Model{nil, {}} {
		for do := api.NoDo - 1; do <= api.Rot+1; do++ {
			if a := m.Do(api.Op{Do: do, Name: "a", Shot: "s"}, true); !sameAnswer(a, api.Answer{Errno: api.ErrNil}) {
				t.Error(do, a)
			}
		}
		b, e := m.Bytes("a", 0)
		c, f := m.Shot("s", "a")
		if b != nil || c != nil || e != api.ErrNil || f != api.ErrNil {
			t.Error(b, c, e, f)
		}
		m.Fall()
		if m.Names() != nil || m.Sessions() != nil || m.Fork() != nil {
			t.Error("something of nil")
		}
		if m.Same(nil) || m.Same(m) || m.Same(model.New(0)) || model.New(0).Same(m) {
			t.Error("the same as nil")
		}
	}
}
