package squeeze_test

import (
	"bytes"
	"math/rand"

	"aumbry/api"
)

// plainMatch is the match at a place, by the chapter's words: each distance is tried, the least first.
func plainMatch(p []byte, at int) (far, n int) {
	for d := 1; d <= 4096 && d <= at; d++ {
		m := 0
		for m < 131 && at+m < len(p) && p[at+m] == p[at+m-d] {
			m++
		}
		if m >= 4 && m > n {
			far, n = d, m
		}
	}
	return far, n
}

// plainPut is what Put tells of bytes that are not too many.
func plainPut(p []byte) []byte {
	var b, plain []byte
	end := func() {
		for len(plain) > 0 {
			n := min(len(plain), 128)
			b = append(append(b, byte(n-1)), plain[:n]...)
			plain = plain[n:]
		}
	}
	for at := 0; at < len(p); {
		far, n := plainMatch(p, at)
		if n == 0 {
			plain = append(plain, p[at])
			at++
			continue
		}
		end()
		b = append(append(b, byte(128+n-4)), num(far)...)
		at += n
	}
	end()
	return b
}

// num is a number's bytes.
func num(n int) []byte {
	if n < 128 {
		return []byte{byte(n)}
	}
	return append([]byte{byte(n&127 | 128)}, num(n>>7)...)
}

// plainNum is the number that bytes begin with, and how many of them it has.
func plainNum(b []byte) (int, int, api.Errno) {
	n := 0
	for i, x := range b {
		switch {
		case i == 7 && x > 15:
			return 0, 0, api.ErrLimit
		case x == 0 && i > 0:
			return 0, 0, api.ErrForm
		case x < 128:
			return n + int(x)<<(7*i), i + 1, api.OK
		}
		n += int(x-128) << (7 * i)
	}
	return 0, 0, api.ErrShort
}

// plainTake is what Take tells, by the chapter's words.
func plainTake(b []byte, most int) ([]byte, api.Errno) {
	var p []byte
	for len(b) > 0 {
		c := int(b[0])
		b = b[1:]
		if c < 128 {
			if len(b) < c+1 {
				return nil, api.ErrShort
			}
			p = append(p, b[:c+1]...)
			b = b[c+1:]
		} else {
			d, n, e := plainNum(b)
			if e != api.OK {
				return nil, e
			}
			if d == 0 || d > len(p) {
				return nil, api.ErrArg
			}
			b = b[n:]
			for range c - 124 {
				p = append(p, p[len(p)-d])
			}
		}
		if len(p) > most || len(p) > 8192 {
			return nil, api.ErrLimit
		}
	}
	if most < 0 {
		return nil, api.ErrLimit
	}
	return p, api.OK
}

// text is n bytes of an alphabet of so many.
func text(r *rand.Rand, n, letters int) []byte {
	p := make([]byte, n)
	for i := range p {
		p[i] = byte(r.Intn(letters))
	}
	return p
}

// torn is bytes in which pieces come again, changed here and there.
func torn(r *rand.Rand, n int) []byte {
	p := text(r, 1+r.Intn(40), 256)
	for len(p) < n {
		switch from := r.Intn(len(p)); r.Intn(4) {
		case 0:
			p = append(p, text(r, 1+r.Intn(20), 256)...)
		case 1:
			p = append(p, bytes.Repeat(p[from:min(from+1+r.Intn(3), len(p))], 1+r.Intn(90))...)
		default:
			p = append(p, p[from:min(from+r.Intn(200), len(p))]...)
		}
	}
	return p[:n]
}
