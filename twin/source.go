package twin

import (
	"aumbry/api"
	"aumbry/gear"
	"aumbry/vault"
	"aumbry/wire"
)

// Source answers from an appliance.
type Source struct {
	home  home
	cut   api.Cut
	table [256]uint32 // by which files are cut
}

// New is a source.
func New(v *vault.Vault, c api.Cut, seed int) (*Source, api.Errno) {
	if v == nil {
		return nil, api.ErrNil
	}
	if e := gear.Check(c); e != api.OK {
		return nil, e
	}
	if seed < 0 || seed > api.MaxNum {
		return nil, api.ErrArg
	}
	return &Source{home: home{v}, cut: c, table: gear.Table(uint64(seed))}, api.OK
}

// Hear answers a note.
func (s *Source) Hear(b []byte) ([]byte, api.Errno) {
	if s == nil || s.home.Vault == nil {
		return nil, api.ErrNil
	}
	asked, e := wire.Take(b)
	if e != api.OK {
		return nil, e
	}
	switch asked.Say {
	case api.AskList:
		return s.tellList()
	case api.AskFile:
		return s.tell(asked, tellParts)
	case api.AskChunk:
		return s.tell(asked, tellChunk)
	}
	return nil, api.ErrArg
}

func (s *Source) tellList() ([]byte, api.Errno) {
	l, e := s.home.list()
	if e != api.OK {
		return nil, e
	}
	return wire.Put(api.Note{Say: api.TellList, Held: l})
}

// tell tells what is told of the chunks of the file that is asked for; or that it is not there.
func (s *Source) tell(asked api.Note, of func(asked api.Note, chunks [][]byte) api.Note) ([]byte, api.Errno) {
	told := api.Note{Say: api.NoFile}
	if chunks, is := s.chunks(heldOf(asked)); is {
		told = of(asked, chunks)
	}
	told.Name, told.Gen = asked.Name, asked.Gen
	return wire.Put(told)
}

// chunks is a file's chunks; false, if it can't be read, or has too many.
func (s *Source) chunks(x api.Held) ([][]byte, bool) {
	b, e := s.home.read(x)
	if e != api.OK {
		return nil, false
	}
	// How files are cut was checked: there is no error.
	l, _ := gear.All(s.cut, s.table, b)
	return l, len(l) <= api.MaxRefs
}

func tellParts(_ api.Note, chunks [][]byte) api.Note {
	told := api.Note{Say: api.TellFile}
	for _, c := range chunks {
		told.Parts = append(told.Parts, partOf(c))
	}
	return told
}

func tellChunk(asked api.Note, chunks [][]byte) api.Note {
	if asked.I >= len(chunks) {
		return api.Note{Say: api.NoFile}
	}
	return api.Note{Say: api.TellChunk, I: asked.I, Bytes: chunks[asked.I]}
}
