package digest

// crcNibbles is, for each value of four bits that go out, what is xor the rest: four of the eight steps of a byte at once.
var crcNibbles = [16]uint32{
	0x00000000, 0x105ec76f, 0x20bd8ede, 0x30e349b1, 0x417b1dbc, 0x5125dad3, 0x61c69362, 0x7198540d,
	0x82f63b78, 0x92a8fc17, 0xa24bb5a6, 0xb21572c9, 0xc38d26c4, 0xd3d3e1ab, 0xe330a81a, 0xf36e6f75,
}

// CrcMore goes on with a sum.
func CrcMore(sum uint32, p []byte) uint32 {
	register := ^sum
	for _, x := range p {
		register ^= uint32(x)
		register = register>>4 ^ crcNibbles[register%16]
		register = register>>4 ^ crcNibbles[register%16]
	}
	return ^register
}

// Crc is a text's check sum.
func Crc(p []byte) uint32 { return CrcMore(0, p) }
