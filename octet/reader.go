package octet

import "aumbry/api"

// fault is the error that stopped what it is embedded in.
type fault struct{ errno api.Errno }

func (f *fault) faulty() bool { return f.errno != api.OK }

func (f *fault) fail(errno api.Errno) { f.errno = errno }

// Reader reads bytes one behind the other.
type Reader struct {
	fault
	bytes []byte
	at    int
}

// Read is a reader at the beginning.
func Read(b []byte) *Reader { return &Reader{bytes: fresh(b)} }

// Num is the next number.
func (r *Reader) Num() int {
	if !r.reads() {
		return 0
	}
	n, next, errno := TakeNum(r.bytes, r.at)
	r.step(next, errno)
	return n
}

// Fixed is the next number of so many bytes.
func (r *Reader) Fixed(width int) int {
	if !r.reads() {
		return 0
	}
	n, next, errno := TakeFixed(r.bytes, r.at, width)
	r.step(next, errno)
	return n
}

// Text is the next text.
func (r *Reader) Text(most int) []byte {
	if !r.reads() {
		return nil
	}
	p, next, errno := TakeText(r.bytes, r.at, most)
	r.step(next, errno)
	return p
}

// End is a reader's fault, or what is left.
func (r *Reader) End() api.Errno {
	if r == nil {
		return api.ErrNil
	}
	if r.faulty() {
		return r.errno
	}
	if r.at < len(r.bytes) {
		return api.ErrForm
	}
	return api.OK
}

// At is where a reader is.
func (r *Reader) At() int {
	if r == nil {
		return 0
	}
	return r.at
}

// reads: does a reader take anything more? Behind a fault it does not, so the first one is not lost.
func (r *Reader) reads() bool { return r != nil && !r.faulty() }

// step goes behind what was taken, or stays with the fault.
func (r *Reader) step(next int, errno api.Errno) {
	if errno != api.OK {
		r.fail(errno)
		return
	}
	r.at = next
}
