package parity

import (
	"bytes"
	"iter"

	"aumbry/field"
)

// base is as many shards as a group has of data: by these all of it can be told.
type base struct {
	points []byte // where they stand
	rows   [][]byte
}

// baseOf is the shards of data.
func baseOf(data [][]byte) base {
	var b base
	for i, row := range data {
		b.add(i, row)
	}
	return b
}

// baseLeft is the first k shards that are not lost.
func baseLeft(shards [][]byte, k int) base {
	var b base
	for i, row := range shards {
		if !isLost(row) && len(b.rows) < k {
			b.add(i, row)
		}
	}
	return b
}

func (b *base) add(place int, row []byte) {
	b.points = append(b.points, byte(place))
	b.rows = append(b.rows, row)
}

// shards tells the group's shards from a place on, up to another one. One that nobody asks for any more is not reckoned.
func (b base) shards(from, to int) iter.Seq2[int, []byte] {
	return func(yield func(int, []byte) bool) {
		for i := from; i < to; i++ {
			if !yield(i, b.shard(byte(i))) {
				return
			}
		}
	}
}

// shard is the group's shard at a point.
func (b base) shard(point byte) []byte {
	shard := make([]byte, len(b.rows[0]))
	if i := bytes.IndexByte(b.points, point); i >= 0 {
		copy(shard, b.rows[i])
		return shard
	}
	// The points are few, and all of them are others: there is no error.
	weights, _ := field.Weights(b.points, point)
	for i, w := range weights {
		for place, x := range b.rows[i] {
			shard[place] ^= field.Mul(w, x)
		}
	}
	return shard
}
