package segment

import (
	"aumbry/api"
	"aumbry/octet"
)

// Put is refs' bytes.
func Put(l []api.Ref) ([]byte, api.Errno) {
	if len(l) > api.MaxSeg {
		return nil, api.ErrLimit
	}
	b := putNums(nil, len(l))
	for _, r := range l {
		if !right(r) {
			return nil, api.ErrArg
		}
		b = putNums(append(b, r.Sum[:]...), r.Len, r.Bin, r.Slot)
	}
	return b, api.OK
}

// Take is the refs of bytes.
func Take(b []byte) ([]api.Ref, api.Errno) {
	t := taker{bytes: b}
	var l []api.Ref
	errno := caught(func() { l = t.all() })
	return l, errno
}

// right: may there be such a ref?
func right(r api.Ref) bool {
	return r.Len >= 1 && r.Len <= api.MaxChunk && r.Bin >= 0 && r.Bin < api.MaxBins && r.Slot >= 0 && r.Slot < api.MaxSlots
}

// putNums lays numbers behind b. They are within what a number may be, as refs that are not right don't come here.
func putNums(b []byte, numbers ...int) []byte {
	for _, n := range numbers {
		p, _ := octet.Num(n)
		b = append(b, p...)
	}
	return b
}

// fault is the error at which reading stops: it goes up by a panic, past all that is under way.
type fault api.Errno

// caught does a step, and is the fault that came up in it.
func caught(step func()) (errno api.Errno) {
	defer func() {
		if f, ok := recover().(fault); ok {
			errno = api.Errno(f)
		}
	}()
	step()
	return api.OK
}

// taker reads refs from the left.
type taker struct {
	bytes []byte
	at    int
}

// all is the refs of all bytes.
func (t *taker) all() []api.Ref {
	n := t.num()
	// Held against the limit ahead of the refs: bytes may claim as many as they like.
	if n > api.MaxSeg {
		panic(fault(api.ErrLimit))
	}
	l := make([]api.Ref, 0, n)
	for range n {
		l = append(l, t.ref())
	}
	if t.at < len(t.bytes) {
		panic(fault(api.ErrForm))
	}
	return l
}

func (t *taker) ref() api.Ref {
	r := api.Ref{Sum: t.sum(), Len: t.num(), Bin: t.num(), Slot: t.num()}
	if !right(r) {
		panic(fault(api.ErrArg))
	}
	return r
}

func (t *taker) sum() api.Sum {
	var s api.Sum
	if len(t.bytes)-t.at < len(s) {
		panic(fault(api.ErrShort))
	}
	t.at += copy(s[:], t.bytes[t.at:])
	return s
}

func (t *taker) num() int {
	n, next, errno := octet.TakeNum(t.bytes, t.at)
	if errno != api.OK {
		panic(fault(errno))
	}
	t.at = next
	return n
}
