package twin_test

import (
	"crypto/sha256"
	"maps"
	"slices"

	"aumbry/api"
	"aumbry/gear"
	"aumbry/vault"
)

// plainSink is a sink by the chapter's words: it hears and asks notes as they are, and looks all through.
type plainSink struct {
	v    *vault.Vault
	room int
	done map[string]int
	list []api.Held
	way  *underWay // nil: none
	kept []string  // as they came
}

type underWay struct {
	held  api.Held
	known bool
	parts []api.Part
	there map[int]string
}

func newPlainSink(v *vault.Vault, room int) *plainSink {
	return &plainSink{v: v, room: room, done: map[string]int{}}
}

func (p *plainSink) told() []api.Held {
	var l []api.Held
	for name, gen := range p.done {
		l = append(l, held(name, gen))
	}
	slices.SortFunc(l, func(a, b api.Held) int {
		if a.Name < b.Name {
			return -1
		}
		return 1
	})
	return l
}

func (p *plainSink) next() api.Note {
	if p.way == nil && len(p.list) > 0 {
		p.way, p.list = &underWay{held: p.list[0]}, p.list[1:]
	}
	if p.way == nil {
		return askList
	}
	if !p.way.known {
		return askFile(p.way.held)
	}
	for i := range p.way.parts {
		if _, is := p.way.there[i]; !is {
			return askChunk(p.way.held, i)
		}
	}
	panic("all of it is there")
}

func (p *plainSink) hear(n api.Note) api.Errno {
	of := p.way != nil && p.way.held == held(n.Name, n.Gen)
	switch n.Say {
	case api.TellList:
		if p.way == nil && len(p.list) == 0 {
			for _, h := range n.Held {
				if gen, is := p.done[h.Name]; !is || gen != h.Gen {
					p.list = append(p.list, h)
				}
			}
		}
	case api.NoFile:
		if of {
			p.way = nil
		}
	case api.TellFile:
		if of && !p.way.known {
			p.know(n.Parts)
		}
	case api.TellChunk:
		if of {
			p.chunk(n.I, string(n.Bytes))
		}
	default:
		return api.ErrArg
	}
	return p.file()
}

func (p *plainSink) know(parts []api.Part) {
	p.way.known, p.way.parts, p.way.there = true, parts, map[int]string{}
	for _, chunk := range p.kept {
		for i, part := range parts {
			if partOf([]byte(chunk)) == part {
				p.way.there[i] = chunk
			}
		}
	}
}

func (p *plainSink) chunk(i int, chunk string) {
	if !p.way.known || i >= len(p.way.parts) {
		return
	}
	if _, is := p.way.there[i]; is {
		return
	}
	part := p.way.parts[i]
	if len(chunk) != part.Len || sha256.Sum256([]byte(chunk)) != part.Sum {
		p.way.known, p.way.parts, p.way.there = false, nil, nil
		return
	}
	p.kept = append(p.kept, chunk)
	p.kept = p.kept[max(0, len(p.kept)-p.room):]
	for i, other := range p.way.parts {
		if other == part {
			p.way.there[i] = chunk
		}
	}
}

func (p *plainSink) file() api.Errno {
	if p.way == nil || !p.way.known || len(p.way.there) < len(p.way.parts) {
		return api.OK
	}
	way := p.way
	p.way = nil
	var text string
	for _, i := range slices.Sorted(maps.Keys(way.there)) {
		text += way.there[i]
	}
	begun := p.v.Do(api.Op{Do: api.Begin, Name: way.held.Name})
	if begun.Errno != api.OK {
		return begun.Errno
	}
	steps := []api.Op{{Do: api.Write, N: begun.N, Bytes: []byte(text)}, {Do: api.Commit, N: begun.N}}
	if text == "" {
		steps = steps[1:]
	}
	for _, o := range steps {
		if a := p.v.Do(o); a.Errno != api.OK {
			p.v.Do(api.Op{Do: api.Abort, N: begun.N})
			return a.Errno
		}
	}
	p.done[way.held.Name] = way.held.Gen
	return api.OK
}

// plainTell is what a source answers to what asks.
func plainTell(v *vault.Vault, c api.Cut, seed int, n api.Note) (api.Note, api.Errno) {
	if n.Say == api.AskList {
		a := v.Do(api.Op{Do: api.List})
		return tellList(a.Names...), a.Errno
	}
	h := held(n.Name, n.Gen)
	a := v.Do(api.Op{Do: api.Read, Name: n.Name, Gen: n.Gen})
	chunks, _ := gear.All(c, gear.Table(uint64(seed)), a.Bytes)
	if a.Errno != api.OK || len(chunks) > 256 || n.Say == api.AskChunk && n.I >= len(chunks) {
		return noFile(h), api.OK
	}
	if n.Say == api.AskChunk {
		return tellChunk(h, n.I, string(chunks[n.I])), api.OK
	}
	var l []string
	for _, chunk := range chunks {
		l = append(l, string(chunk))
	}
	return tellFile(h, l...), api.OK
}
