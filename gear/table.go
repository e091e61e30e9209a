package gear

// The numbers of SplitMix64, by which a seed's table is made.
const (
	step   = 0x9e3779b97f4a7c15
	first  = 0xbf58476d1ce4e5b9
	second = 0x94d049bb133111eb
)

// Table is a table of numbers that a seed makes.
func Table(seed uint64) [256]uint32 {
	var table [256]uint32
	x := seed
	for i := range table {
		x += step
		table[i] = uint32(mixed(x) >> 32)
	}
	return table
}

func mixed(y uint64) uint64 {
	y = (y ^ y>>30) * first
	y = (y ^ y>>27) * second
	return y ^ y>>31
}
