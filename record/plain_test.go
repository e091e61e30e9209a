package record_test

import (
	"encoding/binary"
	"math/rand"
	"reflect"
	"strings"

	"aumbry/api"
)

// named is what the kinds name, by the chapter's words.
var named = map[api.Kind]string{
	api.Laid: "Place", api.Freed: "Place", api.Filed: "Name Gen Time Refs", api.Dropped: "Name Gen", api.Snapped: "Name Time Held",
	api.Unsnapped: "Name", api.Moved: "Moves", api.Ticked: "Time", api.Expired: "Keep",
}

func between(min, n, max int) bool { return min <= n && n <= max }

func plainName(s string) bool {
	return len(s) <= 32 && s != "" && strings.Trim(s, "!\"#$%&'()*+,-./0123456789:;<=>?@ABCDEFGHIJKLMNOPQRSTUVWXYZ[\\]^_`abcdefghijklmnopqrstuvwxyz{|}~") == ""
}

func plainSpot(s api.Spot) bool { return between(0, s.Bin, 4095) && between(0, s.Slot, 63) }

// plainCheck is Check, sentence by sentence.
func plainCheck(f api.Fact) api.Errno {
	names := named[f.Kind]
	if names == "" {
		return api.ErrForm
	}
	v := reflect.ValueOf(f)
	for i := range v.NumField() {
		part := v.Field(i)
		zero := part.IsZero() || part.Kind() == reflect.Slice && part.Len() == 0
		if name := v.Type().Field(i).Name; name != "Kind" && !strings.Contains(names, name) && !zero {
			return api.ErrForm
		}
	}
	right := true
	has := func(part string) bool { return strings.Contains(names, part) }
	if f.Kind == api.Laid {
		right = between(0, f.Place.Bin, 4095) && between(0, f.Place.Run.At, 4095) && between(2, f.Place.Run.N, 64)
	}
	if f.Kind == api.Freed {
		right = between(0, f.Place.Bin, 4095) && f.Place.Run.At == 0 && f.Place.Run.N == 0
	}
	right = right && (!has("Name") || plainName(f.Name)) && (!has("Gen") || between(1, f.Gen, api.MaxNum)) && (!has("Time") || between(0, f.Time, api.MaxNum))
	if k := f.Keep; has("Keep") {
		right = right && between(0, k.Last, api.MaxNum) && between(0, k.Young, api.MaxNum) && between(1, k.Step, api.MaxNum) && between(0, k.Count, api.MaxNum)
	}
	if !right {
		return api.ErrArg
	}
	if len(f.Refs) > 256 || len(f.Held) > 64 || len(f.Moves) > 64 {
		return api.ErrLimit
	}
	right = f.Kind != api.Moved || len(f.Moves) > 0
	for _, r := range f.Refs {
		right = right && between(1, r.Len, 512) && plainSpot(api.Spot{Bin: r.Bin, Slot: r.Slot})
	}
	for _, m := range f.Moves {
		right = right && plainSpot(m.From) && plainSpot(m.To)
	}
	for _, h := range f.Held {
		right = right && plainName(h.Name) && between(1, h.Gen, api.MaxNum)
	}
	if !right {
		return api.ErrArg
	}
	return api.OK
}

// lay is the bytes of numbers, texts and sums, one behind the other; Go's own variable numbers are those of octet.
func lay(parts ...any) []byte {
	var b []byte
	for _, p := range parts {
		switch x := p.(type) {
		case int:
			b = binary.AppendUvarint(b, uint64(x))
		case api.Kind:
			b = binary.AppendUvarint(b, uint64(x))
		case string:
			b = append(binary.AppendUvarint(b, uint64(len(x))), x...)
		case api.Sum:
			b = append(b, x[:]...)
		case []byte:
			b = append(b, x...)
		}
	}
	return b
}

// plainPut is the bytes of facts, whatever is wrong with them but that a number is below 0.
func plainPut(l []api.Fact) []byte {
	b := lay(len(l))
	for _, f := range l {
		b = lay(b, f.Kind)
		switch f.Kind {
		case api.Laid:
			b = lay(b, f.Place.Bin, f.Place.Run.At, f.Place.Run.N)
		case api.Freed:
			b = lay(b, f.Place.Bin)
		case api.Filed:
			b = lay(b, f.Name, f.Gen, f.Time, len(f.Refs))
			for _, r := range f.Refs {
				b = lay(b, r.Sum, r.Len, r.Bin, r.Slot)
			}
		case api.Dropped:
			b = lay(b, f.Name, f.Gen)
		case api.Snapped:
			b = lay(b, f.Name, f.Time, len(f.Held))
			for _, h := range f.Held {
				b = lay(b, h.Name, h.Gen)
			}
		case api.Unsnapped:
			b = lay(b, f.Name)
		case api.Moved:
			b = lay(b, len(f.Moves))
			for _, m := range f.Moves {
				b = lay(b, m.From.Bin, m.From.Slot, m.To.Bin, m.To.Slot)
			}
		case api.Ticked:
			b = lay(b, f.Time)
		case api.Expired:
			b = lay(b, f.Keep.Last, f.Keep.Young, f.Keep.Step, f.Keep.Count)
		}
	}
	return b
}

// plain is bytes that are taken from the left; behind the first error nothing is taken any more.
type plain struct {
	b []byte
	e api.Errno
}

func (p *plain) fail(e api.Errno) {
	if p.e == api.OK {
		p.e = e
	}
}

func (p *plain) byte() int {
	if p.e == api.OK && len(p.b) == 0 {
		p.fail(api.ErrShort)
	}
	if p.e != api.OK {
		return 0
	}
	x := p.b[0]
	p.b = p.b[1:]
	return int(x)
}

func (p *plain) num(most int, e api.Errno) int {
	n := 0
	for i := 0; ; i++ {
		x := p.byte()
		if i == 7 && x > 15 {
			p.fail(api.ErrLimit)
			return 0
		}
		n += x % 128 << (7 * i)
		if x >= 128 {
			continue
		}
		if x == 0 && i > 0 {
			p.fail(api.ErrForm)
		}
		if n > most {
			p.fail(e)
		}
		if p.e != api.OK {
			return 0
		}
		return n
	}
}

func (p *plain) any() int { return p.num(api.MaxNum, api.OK) }

func (p *plain) raw(n int) []byte {
	var b []byte
	for range n {
		b = append(b, byte(p.byte()))
	}
	return b
}

func (p *plain) text() string { return string(p.raw(p.num(32, api.ErrLimit))) }

func (p *plain) spot() api.Spot { return api.Spot{Bin: p.any(), Slot: p.any()} }

func (p *plain) fact() api.Fact {
	f := api.Fact{Kind: api.Kind(p.any())}
	if named[f.Kind] == "" {
		p.fail(api.ErrForm)
		return api.Fact{}
	}
	for _, part := range strings.Fields(named[f.Kind]) {
		switch part {
		case "Place":
			f.Place.Bin = p.any()
			if f.Kind == api.Laid {
				f.Place.Run = api.Run{At: p.any(), N: p.any()}
			}
		case "Name":
			f.Name = p.text()
		case "Gen":
			f.Gen = p.any()
		case "Time":
			f.Time = p.any()
		case "Refs":
			for range p.num(256, api.ErrLimit) {
				f.Refs = append(f.Refs, api.Ref{Sum: api.Sum(p.raw(32)), Len: p.any(), Bin: p.any(), Slot: p.any()})
			}
		case "Held":
			for range p.num(64, api.ErrLimit) {
				f.Held = append(f.Held, api.Held{Name: p.text(), Gen: p.any()})
			}
		case "Moves":
			for range p.num(64, api.ErrLimit) {
				f.Moves = append(f.Moves, api.Move{From: p.spot(), To: p.spot()})
			}
		case "Keep":
			f.Keep = api.Keep{Last: p.any(), Young: p.any(), Step: p.any(), Count: p.any()}
		}
	}
	p.fail(plainCheck(f))
	return f
}

// plainTake is what is taken by the chapter's words.
func plainTake(b []byte) ([]api.Fact, api.Errno) {
	p := &plain{b: b}
	n := p.num(300, api.ErrLimit)
	if n == 0 {
		p.fail(api.ErrArg)
	}
	var l []api.Fact
	for range n {
		l = append(l, p.fact())
		if p.e != api.OK {
			break
		}
	}
	if len(p.b) > 0 {
		p.fail(api.ErrForm)
	}
	if p.e != api.OK {
		return nil, p.e
	}
	return l, api.OK
}

func randomName(r *rand.Rand) string {
	b := make([]byte, 1+r.Intn(32))
	for i := range b {
		b[i] = byte(33 + r.Intn(94))
	}
	return string(b)
}

// randomNum is a number up to MaxNum, of any size.
func randomNum(r *rand.Rand) int { return r.Intn(api.MaxNum+1) >> r.Intn(53) }

func randomSpot(r *rand.Rand) api.Spot { return api.Spot{Bin: r.Intn(4096), Slot: r.Intn(64)} }

// randomFact is a fact that is right, with lists of up to so many elements.
func randomFact(r *rand.Rand, most int) api.Fact {
	f := api.Fact{Kind: api.Kind(1 + r.Intn(9))}
	n := r.Intn(most + 1)
	for _, part := range strings.Fields(named[f.Kind]) {
		switch part {
		case "Place":
			f.Place.Bin = r.Intn(4096)
			if f.Kind == api.Laid {
				f.Place.Run = api.Run{At: r.Intn(4096), N: 2 + r.Intn(63)}
			}
		case "Name":
			f.Name = randomName(r)
		case "Gen":
			f.Gen = max(1, randomNum(r))
		case "Time":
			f.Time = randomNum(r)
		case "Refs":
			for range n {
				x := api.Ref{Len: 1 + r.Intn(512), Bin: r.Intn(4096), Slot: r.Intn(64)}
				r.Read(x.Sum[:])
				f.Refs = append(f.Refs, x)
			}
		case "Held":
			for range min(n, 64) {
				f.Held = append(f.Held, api.Held{Name: randomName(r), Gen: max(1, randomNum(r))})
			}
		case "Moves":
			for range max(1, min(n, 64)) {
				f.Moves = append(f.Moves, api.Move{From: randomSpot(r), To: randomSpot(r)})
			}
		case "Keep":
			f.Keep = api.Keep{Last: randomNum(r), Young: randomNum(r), Step: max(1, randomNum(r)), Count: randomNum(r)}
		}
	}
	return f
}

func randomFacts(r *rand.Rand, n, most int) []api.Fact {
	var l []api.Fact
	for range n {
		l = append(l, randomFact(r, most))
	}
	return l
}
