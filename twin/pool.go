package twin

import "aumbry/api"

// pool is the chunks that are kept: those that came last.
type pool struct {
	room   int
	chunks map[api.Part][]byte
	came   []api.Part // in which order
}

func newPool(room int) *pool {
	return &pool{room: room, chunks: map[api.Part][]byte{}}
}

func (p *pool) size() int { return len(p.chunks) }

// find is a chunk that is kept; nil, if it is not.
func (p *pool) find(x api.Part) []byte { return p.chunks[x] }

// keep keeps a chunk that is not kept yet.
func (p *pool) keep(x api.Part, chunk []byte) {
	p.chunks[x] = chunk
	p.came = append(p.came, x)
	if len(p.came) > p.room {
		delete(p.chunks, p.came[0])
		p.came = p.came[1:]
	}
}
