package bin

import (
	"aumbry/api"
	"aumbry/disk"
	"aumbry/extent"
)

// ground is what a shelf stands on: a disk, and the map of which its sectors are taken. Both are embedded here, and not in the shelf itself, as their calls would be the shelf's too, and panic of a nil one.
type ground struct {
	*disk.Disk
	*extent.Map
}

// lay writes whole sectors to where there is room, and is where that was.
func (g ground) lay(b []byte) (api.Run, api.Errno) {
	n := len(b) / api.Sector
	at, e := g.Take(n)
	if e != api.OK {
		return api.Run{}, e
	}
	run := api.Run{At: at, N: n}
	for i := range n {
		if e := g.Write(at+i, b[i*api.Sector:(i+1)*api.Sector]); e != api.OK {
			g.Give(run)
			return api.Run{}, e
		}
	}
	return run, api.OK
}

// lift is what the sectors of a run have, one behind the other.
func (g ground) lift(r api.Run) ([]byte, api.Errno) {
	var b []byte
	for i := range r.N {
		sector, e := g.Read(r.At + i)
		if e != api.OK {
			return nil, e
		}
		b = append(b, sector...)
	}
	return b, api.OK
}
