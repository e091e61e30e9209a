package tape

import "aumbry/api"

// frame is how the blocks of a stream lie: all of a tape have the same one.
type frame struct {
	lay   api.Lay
	total int // bytes of the stream
}

func frameOf(x api.Block) frame { return frame{x.Lay, x.Total} }

func isLay(l api.Lay) bool {
	return l.Size >= 1 && l.Size <= api.MaxShard &&
		l.Data >= 1 && l.Data <= api.MaxData &&
		l.Parity >= 0 && l.Parity <= api.MaxParity
}

// isRight: is there such a tape? Only of a frame that is right, or would be with fewer blocks, may more be asked.
func (f frame) isRight() bool {
	return isLay(f.lay) && f.total >= 1 && f.total <= api.MaxTape && f.blocks() <= api.MaxCount
}

// data is how many blocks of data there are: one at least, as a stream has a byte at least.
func (f frame) data() int { return upwards(f.total, f.lay.Size) }

func (f frame) groups() int { return upwards(f.data(), f.lay.Data) }

// blocks is how many blocks there are in all.
func (f frame) blocks() int { return f.data() + f.groups()*f.lay.Parity }

// dataIn is how many blocks of data a group has.
func (f frame) dataIn(group int) int { return min(f.lay.Data, f.data()-group*f.lay.Data) }

// size is how many blocks a group has.
func (f frame) size(group int) int { return f.dataIn(group) + f.lay.Parity }

// upwards is a quotient, upwards.
func upwards(n, by int) int { return (n + by - 1) / by }
