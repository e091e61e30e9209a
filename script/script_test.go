package script_test

import (
	"bytes"
	"math"
	"math/rand"
	"slices"
	"strings"
	"testing"

	"aumbry/api"
	"aumbry/script"
	"aumbry/vault"
)

const mostNumber = "9007199254740991"

func sameOp(a, b api.Op) bool {
	return a.Do == b.Do && a.N == b.N && a.Name == b.Name && a.Shot == b.Shot && a.Gen == b.Gen && a.From == b.From && a.Size == b.Size &&
		bytes.Equal(a.Bytes, b.Bytes) && a.Keep == b.Keep && slices.Equal(a.Crash.Keep, b.Crash.Keep) && a.Crash.Torn == b.Crash.Torn && a.Crash.At == b.Crash.At
}

// right is lines, and their operations; Print tells the line again.
func right() map[string]api.Op {
	name := strings.Repeat("~", 32)
	return map[string]api.Op{
		"begin a":                 {Do: api.Begin, Name: "a"},
		"begin " + name:           {Do: api.Begin, Name: name},
		"begin =":                 {Do: api.Begin, Name: "="},
		"write 3 =a b":            {Do: api.Write, N: 3, Bytes: []byte("a b")},
		"write 0 =":               {Do: api.Write},
		"write 1 = ":              {Do: api.Write, N: 1, Bytes: []byte(" ")},
		"write 1 =  a  ":          {Do: api.Write, N: 1, Bytes: []byte("  a  ")},
		"write 1 ==x":             {Do: api.Write, N: 1, Bytes: []byte("=x")},
		"write 1 =x00":            {Do: api.Write, N: 1, Bytes: []byte("x00")},
		"write 1 = ~":             {Do: api.Write, N: 1, Bytes: []byte{32, 126}},
		"write 1 x1f7e":           {Do: api.Write, N: 1, Bytes: []byte{31, 126}},
		"write 1 x207f":           {Do: api.Write, N: 1, Bytes: []byte{32, 127}},
		"write 1 x000a61ff":       {Do: api.Write, N: 1, Bytes: []byte{0, 10, 'a', 255}},
		"commit 7":                {Do: api.Commit, N: 7},
		"abort " + mostNumber:     {Do: api.Abort, N: api.MaxNum},
		"read a 0":                {Do: api.Read, Name: "a"},
		"stat a 10":               {Do: api.Stat, Name: "a", Gen: 10},
		"delete 5 6":              {Do: api.Delete, Name: "5", Gen: 6},
		"range a 1 2 3":           {Do: api.Range, Name: "a", Gen: 1, From: 2, Size: 3},
		"shown s a":               {Do: api.Shown, Shot: "s", Name: "a"},
		"list":                    {Do: api.List},
		"scrub":                   {Do: api.Scrub},
		"rebuild":                 {Do: api.Rebuild},
		"mount":                   {Do: api.Mount},
		"snap list":               {Do: api.Snap, Shot: "list"},
		"unsnap s":                {Do: api.Unsnap, Shot: "s"},
		"tick 1":                  {Do: api.Tick, N: 1},
		"clean 101":               {Do: api.Clean, N: 101},
		"trip 0":                  {Do: api.Trip},
		"expire 1 2 3 4":          {Do: api.Expire, Keep: api.Keep{Last: 1, Young: 2, Step: 3, Count: 4}},
		"expire 0 0 0 0":          {Do: api.Expire},
		"fall k - 0":              {Do: api.Fall, Crash: api.Crash{Torn: -1}},
		"fall k 0 0":              {Do: api.Fall},
		"fall k10 3 9":            {Do: api.Fall, Crash: api.Crash{Keep: []bool{true, false}, Torn: 3, At: 9}},
		"fall k0 - " + mostNumber: {Do: api.Fall, Crash: api.Crash{Keep: []bool{false}, Torn: -1, At: api.MaxNum}},
		"rot 9 =":                 {Do: api.Rot, N: 9},
		"rot 9 xff":               {Do: api.Rot, N: 9, Bytes: []byte{255}},
	}
}

// P20.1, P20.4: each kind of line is parsed, and printed again.
func TestLines(t *testing.T) {
	met := map[api.Do]int{}
	for line, want := range right() {
		met[want.Do]++
		if o, e := script.Parse(line); e != api.OK || !sameOp(o, want) {
			t.Errorf("Parse(%q): %+v %d", line, o, e)
		}
		if again, e := script.Print(want); e != api.OK || again != line {
			t.Errorf("Print(%+v): %q %d, not %q", want, again, e, line)
		}
	}
	if len(met) != int(api.Rot) {
		t.Error("some are left out", len(met))
	}
}

// P20.1: x may stand where = might, and for no bytes at all.
func TestPairs(t *testing.T) {
	for line, want := range map[string]string{"write 2 x": "", "write 2 x61": "a", "rot 2 x2061": " a", "write 2 x0123456789abcdef": "\x01\x23\x45\x67\x89\xab\xcd\xef"} {
		if o, e := script.Parse(line); e != api.OK || string(o.Bytes) != want || o.N != 2 {
			t.Errorf("Parse(%q): %+v %d", line, o, e)
		}
	}
}

// P20.1: what is no line.
func TestWrongLines(t *testing.T) {
	var lines []string
	for line, o := range right() {
		lines = append(lines, " "+line, strings.ToUpper(line[:1])+line[1:], line+"\n", line[1:])
		if len(o.Bytes) == 0 && o.Do != api.Write && o.Do != api.Rot {
			lines = append(lines, line+" ", line+" 1", line+" a")
		}
		for i := range len(line) {
			if line[i] == ' ' && (len(o.Bytes) == 0 || i < 9 && i != 7) { // not among bytes
				lines = append(lines, line[:i], line[:i]+" "+line[i:], line[:i]+"\t"+line[i+1:])
			}
		}
	}
	lines = slices.DeleteFunc(lines, func(line string) bool { return line == "write 1 = " || line == "write 1 =" || line == "write 1 =  " })
	lines = append(lines, "", " ", "lists", "lis", "begin", "begin ", "begin a b", "begin a\x7f", "begin "+strings.Repeat("a", 33), "begin \u00e4",
		"commit", "commit a", "commit -1", "commit +1", "commit 01", "commit 00", "commit 1.0", "commit 1e3", "commit 0x1", "commit 1_0", "commit ", "commit \u0661",
		"commit 9007199254740992", "commit 9223372036854775808", "commit 99999999999999999999999999", "commit -0", "commit 1 2",
		"read a", "read a -1", "read a 1 2", "stat a", "delete a", "delete 0", "range a 0 1", "range a 0 1 2 3", "range a 0 -1 2", "shown s", "shown s a b", "list 1",
		"snap", "snap a b", "unsnap", "tick", "tick -1", "clean", "clean x", "trip", "scrub 1", "rebuild 1", "mount 1",
		"expire 1 2 3", "expire 1 2 3 4 5", "expire 1 2 3 -4", "expire 1 2 3 a",
		"fall", "fall k", "fall k 0", "fall k 0 0 0", "fall 0 0", "fall k2 0 0", "fall k1x 0 0", "fall x1 0 0", "fall K1 0 0", "fall k1 -1 0", "fall k1 -- 0", "fall k1 - -", "fall k1 - -1", "fall k1  0", "fall kk 0 0", "fall k1 0 01",
		"write 1", "write 1 ", "write 1 a", "write =a", "write x00", "write 1 x0", "write 1 x000", "write 1 xg0", "write 1 x0g", "write 1 xA0", "write 1 x0A", "write 1 x00 ", "write 1 x 00", "write 1 X00", "write 1 x/0", "write 1 x:0", "write 1 x`0",
		"write 1 =\x1f", "write 1 =\x7f", "write 1 =a\nb", "write 1 =\u00e4", "write 1  =a", "write 1\t=a", "rot 1", "rot 1 0", "rot x =", "rot -1 =", "what")
	for _, line := range lines {
		if o, e := script.Parse(line); e != api.ErrForm || !sameOp(o, api.Op{}) {
			t.Errorf("Parse(%q): %+v %d", line, o, e)
		}
	}
}

// P20.1: an operation that no line has.
func TestPrintErrors(t *testing.T) {
	wrong := []api.Op{{}, {Do: -1}, {Do: api.Rot + 1}, {Do: math.MaxInt}, {Do: math.MinInt}, {Do: api.NoDo, Name: "a"},
		{Do: api.Begin}, {Do: api.Begin, Name: "a b"}, {Do: api.Begin, Name: "a\n"}, {Do: api.Begin, Name: strings.Repeat("a", 33)},
		{Do: api.Read, Name: "a 1", Gen: 2}, {Do: api.Read, Gen: 2}, {Do: api.Shown, Name: "a"}, {Do: api.Shown, Shot: "s"}, {Do: api.Shown, Shot: "s a", Name: ""}, {Do: api.Snap}, {Do: api.Unsnap, Shot: " "},
		{Do: api.Commit, N: -1}, {Do: api.Commit, N: api.MaxNum + 1}, {Do: api.Commit, N: math.MinInt}, {Do: api.Range, Name: "a", From: -1}, {Do: api.Range, Name: "a", Size: -1}, {Do: api.Range, Name: "a", Gen: -1},
		{Do: api.Expire, Keep: api.Keep{Last: -1}}, {Do: api.Expire, Keep: api.Keep{Young: -1}}, {Do: api.Expire, Keep: api.Keep{Step: -1}}, {Do: api.Expire, Keep: api.Keep{Count: -1}},
		{Do: api.Fall, Crash: api.Crash{Torn: -2}}, {Do: api.Fall, Crash: api.Crash{At: -1}}, {Do: api.Fall, Crash: api.Crash{Torn: api.MaxNum + 1}},
		{Do: api.List, Crash: api.Crash{Torn: -1}}, {Do: api.Write, N: -1, Bytes: []byte("a")}}
	for _, o := range right() {
		// What a line does not name is zero.
		for i := range 13 {
			p := o
			switch i {
			case 0:
				p.N = 5
			case 1:
				p.Name = "other"
			case 2:
				p.Shot = "other"
			case 3:
				p.Gen = 5
			case 4:
				p.From = 5
			case 5:
				p.Size = 5
			case 6:
				p.Bytes = []byte("other")
			case 7:
				p.Keep.Last = 5
			case 8:
				p.Keep.Young = 5
			case 9:
				p.Keep.Step, p.Keep.Count = 5, 5
			case 10:
				p.Crash.Keep = []bool{true, true, true}
			case 11:
				p.Crash.Torn = 5
			case 12:
				p.Crash.At = 5
			}
			if !names(o.Do, i) {
				wrong = append(wrong, p)
			}
		}
	}
	for _, o := range wrong {
		if line, e := script.Print(o); e != api.ErrForm || line != "" {
			t.Errorf("Print(%+v): %q %d", o, line, e)
		}
	}
}

// names: does a line of that kind name the i-th thing?
func names(do api.Do, i int) bool {
	return slices.Contains(map[api.Do][]int{
		api.Begin: {1}, api.Write: {0, 6}, api.Rot: {0, 6}, api.Commit: {0}, api.Abort: {0}, api.Tick: {0}, api.Clean: {0}, api.Trip: {0},
		api.Read: {1, 3}, api.Stat: {1, 3}, api.Delete: {1, 3}, api.Range: {1, 3, 4, 5}, api.Shown: {1, 2}, api.Snap: {2}, api.Unsnap: {2},
		api.Expire: {7, 8, 9}, api.Fall: {10, 11, 12},
	}[do], i)
}

// P20.1: lists without elements are alike.
func TestEmptyLists(t *testing.T) {
	for _, o := range []api.Op{{Do: api.List, Bytes: []byte{}, Crash: api.Crash{Keep: []bool{}}}, {Do: api.List}} {
		if line, e := script.Print(o); e != api.OK || line != "list" {
			t.Error(line, e)
		}
	}
	if line, e := script.Print(api.Op{Do: api.Write, N: 1, Bytes: []byte{}}); e != api.OK || line != "write 1 =" {
		t.Error(line, e)
	}
	if line, e := script.Print(api.Op{Do: api.Fall, Crash: api.Crash{Keep: []bool{}, Torn: -1}}); e != api.OK || line != "fall k - 0" {
		t.Error(line, e)
	}
}

// P20.4: Parse of Print is the operation, of random ones; and a line that is parsed is printed as one that is parsed likewise.
func TestRandomLines(t *testing.T) {
	r := rand.New(rand.NewSource(1))
	text := func(n int) string {
		b := make([]byte, n)
		for i := range b {
			b[i] = byte(33 + r.Intn(94))
		}
		return string(b)
	}
	num := func() int { return r.Intn(1 << uint(1+r.Intn(53))) }
	for range 20000 {
		o := api.Op{Do: api.Do(1 + r.Intn(int(api.Rot)))}
		for i := range 13 {
			if names(o.Do, i) {
				fill(r, &o, i, num, text)
			}
		}
		line, e := script.Print(o)
		if e != api.OK {
			t.Fatalf("%+v %d", o, e)
		}
		again, e := script.Parse(line)
		if e != api.OK || !sameOp(again, o) {
			t.Fatalf("%q %+v %+v %d", line, o, again, e)
		}
		// Any byte of it is another one: it may be no line any more, but Print and Parse agree.
		b := []byte(line)
		b[r.Intn(len(b))] = []byte(" =x0k-1a\n~")[r.Intn(10)]
		if o, e := script.Parse(string(b)); e == api.OK {
			line, e := script.Print(o)
			again, f := script.Parse(line)
			if e != api.OK || f != api.OK || !sameOp(again, o) {
				t.Fatalf("%q %q %d %d", b, line, e, f)
			}
		}
	}
}

func fill(r *rand.Rand, o *api.Op, i int, num func() int, text func(int) string) {
	switch i {
	case 0:
		o.N = num()
	case 1:
		o.Name = text(1 + r.Intn(32))
	case 2:
		o.Shot = text(1 + r.Intn(32))
	case 3:
		o.Gen = num()
	case 4:
		o.From = num()
	case 5:
		o.Size = num()
	case 6:
		o.Bytes = []byte(text(r.Intn(9)))
		if len(o.Bytes) > 0 && r.Intn(2) == 0 {
			o.Bytes[0] = byte(r.Intn(256))
		}
	case 7:
		o.Keep = api.Keep{Last: num(), Young: num(), Step: num(), Count: num()}
	case 10:
		for range r.Intn(9) {
			o.Crash.Keep = append(o.Crash.Keep, r.Intn(2) == 0)
		}
	case 11:
		o.Crash.Torn = r.Intn(5) - 1
	case 12:
		o.Crash.At = num()
	}
}

// P20.2: answers as lines.
func TestTold(t *testing.T) {
	for want, a := range map[string]api.Answer{
		"ok":                       {},
		"ok n7":                    {N: 7},
		"ok n?":                    {N: -7},
		"ok n9223372036854775807":  {N: math.MaxInt},
		"ok x0000":                 {Bytes: []byte{0, 0}},
		"ok =a b":                  {Bytes: []byte("a b")},
		"ok =  ":                   {Bytes: []byte("  ")},
		"ok x7f":                   {Bytes: []byte{127}},
		"ok a@1":                   {Names: []api.Held{{Name: "a", Gen: 1}}},
		"ok a@1 b@? c@0":           {Names: []api.Held{{Name: "a", Gen: 1}, {Name: "b", Gen: -2}, {Name: "c"}}},
		"ok n1 a@2 =x":             {N: 1, Names: []api.Held{{Name: "a", Gen: 2}}, Bytes: []byte("x")},
		"ok b@2 a@1":               {Names: []api.Held{{Name: "b", Gen: 2}, {Name: "a", Gen: 1}}},
		"error 1":                  {Errno: api.ErrNil},
		"error 14":                 {Errno: api.ErrStale},
		"error 99":                 {Errno: 99},
		"error ?":                  {Errno: -1},
		"error 4":                  {Errno: api.ErrForm, N: 3, Bytes: []byte("x"), Names: []api.Held{{Name: "a"}}},
		"ok @0":                    {Names: []api.Held{{}}},
		"ok n1":                    {N: 1, Names: []api.Held{}, Bytes: []byte{}},
		"ok n?\x20a@? x0a":         {N: math.MinInt, Names: []api.Held{{Name: "a", Gen: math.MinInt}}, Bytes: []byte("\n")},
		"ok a\n@1 =" + "~ ~":       {Names: []api.Held{{Name: "a\n", Gen: 1}}, Bytes: []byte("~ ~")},
		"ok x" + "0a0d" + "ff00ab": {Bytes: []byte{10, 13, 255, 0, 171}},
	} {
		if s := script.Told(a); s != want {
			t.Errorf("Told(%+v): %q, not %q", a, s, want)
		}
	}
}

func config() api.Config {
	return api.Config{Sectors: 200, Area: 30, Tune: api.Tune{Cut: api.Cut{Min: 32, Avg: 32, Max: 160}, Wide: 16, Seg: 8, Rate: 1, Bits: 1024, Ways: 3, Hooks: 100, Each: 4, Cache: 8, Champs: 4}}
}

func wantRun(t *testing.T, c api.Config, text, want string) {
	t.Helper()
	l, e := script.Run(c, text)
	if got := strings.Join(l, "|"); e != api.OK || got != want {
		t.Errorf("Run(%q): %q %d, not %q", text, got, e, want)
	}
}

// P20.3: lines are done in order, by one appliance; empty ones are left out.
func TestRun(t *testing.T) {
	wantRun(t, config(), "", "")
	wantRun(t, config(), "\n\n", "")
	wantRun(t, config(), "list", "ok")
	wantRun(t, config(), "\nlist\n\n\nwhat\n \nlist\r\nlist", "ok|error 4|error 4|error 4|ok")
	wantRun(t, config(), "begin a\nbegin b\nwrite 1 x00\nwrite 2 =x y\ncommit 2\ncommit 1\nread a 0\nread b 1\nlist\nstat b 0\nsnap s\ndelete b 0\nread b 0\nshown s b\nlist\ncommit 2",
		"ok n1|ok n2|ok|ok|ok n1|ok n1|ok x00|ok =x y|ok a@1 b@1|ok n3|ok|ok|error 9|ok =x y|ok a@1|error 9")
	wantRun(t, config(), "mount\nfall k - 0\nlist\nmount\nlist\nrot 200 =\ntrip 1\ntick 3\ntick 3\nmount\nfall k - 0\nmount\ntick 9007199254740991\nscrub\nrebuild\nclean 100",
		"error 12|ok|error 7|ok|ok|error 2|ok|error 7|error 7|error 7|ok|ok|ok|ok|ok|ok")
}

// P20.3: an appliance that can't be is told by its error, whatever the lines are.
func TestRunErrors(t *testing.T) {
	c := config()
	c.Area = 7
	for _, text := range []string{"", "list", "what"} {
		if l, e := script.Run(c, text); e != api.ErrArg || l != nil {
			t.Error(l, e)
		}
		if l, e := script.Run(api.Config{}, text); e != api.ErrArg || l != nil {
			t.Error(l, e)
		}
	}
}

// P20.3: what is told is what the appliance answers to the operations.
func TestRunLikeDo(t *testing.T) {
	lines := []string{"begin a", "write 1 =" + strings.Repeat("some words ", 60), "commit 1", "read a 0", "range a 1 5 9", "tick 7", "begin a", "write 2 x0102", "commit 2", "expire 1 0 1 0", "list", "clean 100", "scrub", "abort 5", "shown s a", "unsnap s", "delete a 9"}
	v, e := vault.New(config())
	if e != api.OK {
		t.Fatal(e)
	}
	var want []string
	for _, line := range lines {
		o, e := script.Parse(line)
		if e != api.OK {
			t.Fatal(line, e)
		}
		want = append(want, script.Told(v.Do(o)))
	}
	wantRun(t, config(), strings.Join(lines, "\n\n"), strings.Join(want, "|"))
}

// P3: what is handed in stays as it is, and what is told is new memory.
func TestMemory(t *testing.T) {
	b := []byte("abc-")
	o := api.Op{Do: api.Write, N: 1, Bytes: b[:3]}
	line, e := script.Print(o)
	if e != api.OK || string(b) != "abc-" {
		t.Fatal(string(b), e)
	}
	again, _ := script.Parse(line)
	clear(again.Bytes[:cap(again.Bytes)])
	if string(b) != "abc-" || line != "write 1 =abc" {
		t.Fatal(string(b), line)
	}
	third, _ := script.Parse(line)
	if string(third.Bytes) != "abc" {
		t.Fatal(string(third.Bytes))
	}
	script.Told(api.Answer{Bytes: b[:3]})
	if string(b) != "abc-" {
		t.Fatal(string(b))
	}
}
