package wire

import (
	"slices"

	"aumbry/api"
	"aumbry/octet"
)

// Put is a note's bytes.
func Put(n api.Note) ([]byte, api.Errno) {
	if e := Check(n); e != api.OK {
		return nil, e
	}
	has, _ := namedBy(n.Say)
	b := nums(int(n.Say))
	if has.file {
		b = append(b, fileBytes(n.Name, n.Gen)...)
	}
	if has.chunk {
		b = append(b, nums(n.I)...)
	}
	if has.held {
		b = append(b, listBytes(n.Held, func(h api.Held) []byte { return fileBytes(h.Name, h.Gen) })...)
	}
	if has.parts {
		b = append(b, listBytes(n.Parts, func(p api.Part) []byte { return slices.Concat(p.Sum[:], nums(p.Len)) })...)
	}
	if has.bytes {
		b = append(b, text(n.Bytes, api.MaxChunk)...)
	}
	return b, api.OK
}

// nums is numbers, one behind the other. All that is laid is of a note that Check lets through, and so within octet's limits: there is no error, nor has text one.
func nums(numbers ...int) []byte {
	var b []byte
	for _, n := range numbers {
		one, _ := octet.Num(n)
		b = append(b, one...)
	}
	return b
}

func text(p []byte, most int) []byte {
	b, _ := octet.Text(p, most)
	return b
}

func fileBytes(name string, gen int) []byte {
	return append(text([]byte(name), api.MaxName), nums(gen)...)
}

// listBytes is how many there are in a list, and each one's bytes.
func listBytes[T any](l []T, bytesOf func(T) []byte) []byte {
	b := nums(len(l))
	for _, x := range l {
		b = append(b, bytesOf(x)...)
	}
	return b
}
