package wire_test

import (
	"bytes"
	"encoding/binary"
	"math/rand"
	"reflect"
	"slices"
	"strings"
	"testing"

	"aumbry/api"
	"aumbry/wire"
)

// The signatures that the chapter lists.
var (
	_ func(api.Note) api.Errno           = wire.Check
	_ func(api.Note) ([]byte, api.Errno) = wire.Put
	_ func([]byte) (api.Note, api.Errno) = wire.Take
)

// named is what notes name, by the chapter's words.
var named = map[api.Say]string{
	api.AskList: "nothing", api.TellList: "Held", api.AskFile: "Name Gen", api.TellFile: "Name Gen Parts", api.NoFile: "Name Gen",
	api.AskChunk: "Name Gen I", api.TellChunk: "Name Gen I Bytes",
}

const most = 1<<53 - 1 // a number

func between(low, n, high int) bool { return low <= n && n <= high }

func plainName(s string) bool {
	strange := strings.IndexFunc(s, func(c rune) bool { return c < '!' || c > '~' })
	return between(1, len(s), 32) && strange < 0
}

// plainCheck is Check, sentence by sentence.
func plainCheck(n api.Note) api.Errno {
	names := named[n.Say]
	if names == "" {
		return api.ErrForm
	}
	v := reflect.ValueOf(n)
	for i := range v.NumField() {
		part, name := v.Field(i), v.Type().Field(i).Name
		zero := part.IsZero() || part.Kind() == reflect.Slice && part.Len() == 0
		if name != "Say" && !slices.Contains(strings.Fields(names), name) && !zero {
			return api.ErrForm
		}
	}
	if len(n.Held) > 64 || len(n.Parts) > 256 || len(n.Bytes) > 512 {
		return api.ErrLimit
	}
	right := !strings.Contains(names, "Name") || plainName(n.Name) && between(1, n.Gen, most)
	right = right && between(0, n.I, 255)
	for _, h := range n.Held {
		right = right && plainName(h.Name) && between(1, h.Gen, most)
	}
	for _, p := range n.Parts {
		right = right && between(1, p.Len, 512)
	}
	if !right || n.Say == api.TellChunk && len(n.Bytes) == 0 {
		return api.ErrArg
	}
	return api.OK
}

// lay is parts, one behind the other: numbers, texts behind their lengths, sums, and bytes as they are. Go's own variable numbers are those of octet.
func lay(parts ...any) []byte {
	b := []byte{}
	for _, p := range parts {
		switch x := p.(type) {
		case int:
			b = binary.AppendUvarint(b, uint64(x))
		case api.Say:
			b = binary.AppendUvarint(b, uint64(x))
		case string:
			b = append(binary.AppendUvarint(b, uint64(len(x))), x...)
		case api.Sum:
			b = append(b, x[:]...)
		case []byte:
			b = append(b, x...)
		default:
			panic(p)
		}
	}
	return b
}

// plainPut is the bytes of a note, whatever is wrong with it but that a number is below 0.
func plainPut(n api.Note) []byte {
	b := lay(n.Say)
	switch n.Say {
	case api.TellList:
		b = lay(b, len(n.Held))
		for _, h := range n.Held {
			b = lay(b, h.Name, h.Gen)
		}
	case api.AskFile, api.NoFile:
		b = lay(b, n.Name, n.Gen)
	case api.TellFile:
		b = lay(b, n.Name, n.Gen, len(n.Parts))
		for _, p := range n.Parts {
			b = lay(b, p.Sum, p.Len)
		}
	case api.AskChunk:
		b = lay(b, n.Name, n.Gen, n.I)
	case api.TellChunk:
		b = lay(b, n.Name, n.Gen, n.I, string(n.Bytes))
	}
	return b
}

// plainNum is the number that bytes begin with, and what stands behind it.
func plainNum(b []byte) (int, []byte, api.Errno) {
	n := 0
	for i, x := range b {
		switch {
		case i == 7 && x > 15:
			return 0, nil, api.ErrLimit
		case x == 0 && i > 0:
			return 0, nil, api.ErrForm
		case x < 128:
			return n + int(x)<<(7*i), b[i+1:], api.OK
		}
		n += int(x-128) << (7 * i)
	}
	return 0, nil, api.ErrShort
}

// plainTake is Take, word by word.
func plainTake(b []byte) (n api.Note, e api.Errno) {
	defer func() {
		if x := recover(); x != nil {
			n, e = api.Note{}, x.(api.Errno)
		}
	}()
	num := func(most int) int {
		x, rest, e := plainNum(b)
		if e == api.OK && x > most {
			e = api.ErrLimit
		}
		if e != api.OK {
			panic(e)
		}
		b = rest
		return x
	}
	some := func(n int) []byte {
		if n > len(b) {
			panic(api.ErrShort)
		}
		p := bytes.Clone(b[:n])
		b = b[n:]
		return p
	}
	n.Say = api.Say(num(most))
	names := named[n.Say]
	if names == "" {
		panic(api.ErrForm)
	}
	for _, name := range strings.Fields(names) {
		switch name {
		case "Name":
			n.Name = string(some(num(32)))
		case "Gen":
			n.Gen = num(most)
		case "I":
			n.I = num(most)
		case "Held":
			for range num(64) {
				n.Held = append(n.Held, api.Held{Name: string(some(num(32))), Gen: num(most)})
			}
		case "Parts":
			for range num(256) {
				n.Parts = append(n.Parts, api.Part{Sum: api.Sum(some(32)), Len: num(most)})
			}
		case "Bytes":
			n.Bytes = some(num(512))
		}
	}
	if e := plainCheck(n); e != api.OK {
		panic(e)
	}
	if len(b) > 0 {
		panic(api.ErrForm)
	}
	return n, api.OK
}

func sameNote(a, b api.Note) bool {
	return a.Say == b.Say && a.Name == b.Name && a.Gen == b.Gen && a.I == b.I &&
		slices.Equal(a.Held, b.Held) && slices.Equal(a.Parts, b.Parts) && bytes.Equal(a.Bytes, b.Bytes)
}

// bySay is a note of each kind, with all that it names.
func bySay() []api.Note {
	parts := []api.Part{{Sum: api.Sum{9, 8}, Len: 40}, {Len: 512}}
	return []api.Note{
		{Say: api.AskList},
		{Say: api.TellList, Held: []api.Held{{Name: "a", Gen: 3}, {Name: "db", Gen: 300}}},
		{Say: api.AskFile, Name: "db", Gen: 2},
		{Say: api.TellFile, Name: "db", Gen: 2, Parts: parts},
		{Say: api.NoFile, Name: "db", Gen: 2},
		{Say: api.AskChunk, Name: "db", Gen: 2, I: 7},
		{Say: api.TellChunk, Name: "db", Gen: 2, I: 7, Bytes: []byte("xyz")},
	}
}

// many is the same thing, n times.
func many[T any](n int, x T) []T { return slices.Repeat([]T{x}, n) }

func someName(r *rand.Rand) string {
	b := make([]byte, 1+r.Intn(32))
	for i := range b {
		b[i] = byte(33 + r.Intn(94))
	}
	return string(b)
}

func someGen(r *rand.Rand) int { return 1 + r.Intn(1<<r.Intn(53)) }

// someNote is a right note of any kind; its lists have at most so many elements.
func someNote(r *rand.Rand, long int) api.Note {
	n := api.Note{Say: api.Say(1 + r.Intn(7))}
	for _, name := range strings.Fields(named[n.Say]) {
		switch name {
		case "Name":
			n.Name = someName(r)
		case "Gen":
			n.Gen = someGen(r)
		case "I":
			n.I = r.Intn(256)
		case "Held":
			for range r.Intn(min(long, 64) + 1) {
				n.Held = append(n.Held, api.Held{Name: someName(r), Gen: someGen(r)})
			}
		case "Parts":
			for range r.Intn(min(long, 256) + 1) {
				p := api.Part{Len: 1 + r.Intn(512)}
				r.Read(p.Sum[:])
				n.Parts = append(n.Parts, p)
			}
		case "Bytes":
			n.Bytes = make([]byte, 1+r.Intn(min(2*long, 512)))
			r.Read(n.Bytes)
		}
	}
	return n
}

// wantNote: a note is right, has these bytes, and is told by them.
func wantNote(t *testing.T, n api.Note, want []byte) {
	t.Helper()
	if e := wire.Check(n); e != api.OK {
		t.Fatalf("Check(%+v): %d", n, e)
	}
	if b, e := wire.Put(n); e != api.OK || !bytes.Equal(b, want) {
		t.Fatalf("Put(%+v): % x, %d; want % x", n, b, e, want)
	}
	if got, e := wire.Take(want); e != api.OK || !sameNote(got, n) {
		t.Fatalf("Take(% x): %+v, %d; want %+v", want, got, e, n)
	}
}

// wantWrong: a note is not right, and has no bytes.
func wantWrong(t *testing.T, n api.Note, want api.Errno) {
	t.Helper()
	if e := wire.Check(n); e != want {
		t.Fatalf("Check(%+v): %d, want %d", n, e, want)
	}
	if b, e := wire.Put(n); e != want || len(b) != 0 {
		t.Fatalf("Put(%+v): % x, %d; want %d", n, b, e, want)
	}
}

// wantNoNote: bytes are no note.
func wantNoNote(t *testing.T, b []byte, want api.Errno) {
	t.Helper()
	if n, e := wire.Take(b); e != want || !sameNote(n, api.Note{}) {
		t.Fatalf("Take(% x): %+v, %d; want %d", b, n, e, want)
	}
}
