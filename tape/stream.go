package tape

import (
	"aumbry/api"
	"aumbry/octet"
	"aumbry/record"
)

// Stream is entries' bytes.
func Stream(l []api.Entry) ([]byte, api.Errno) {
	if len(l) > api.MaxEntry {
		return nil, api.ErrLimit
	}
	for _, x := range l {
		if !isEntry(x) {
			return nil, api.ErrArg
		}
	}
	b := nums(len(l))
	for _, x := range l {
		packed, e := Pack(x.Bytes)
		if e != api.OK {
			return nil, e
		}
		b = append(b, entryBytes(x, packed)...)
		// Asked at once, as no entry behind makes it less, nor has another error.
		if len(b) > api.MaxTape {
			return nil, api.ErrLimit
		}
	}
	return b, api.OK
}

// Entries is the entries of bytes.
func Entries(b []byte) ([]api.Entry, api.Errno) {
	n, at, e := octet.TakeNum(b, 0)
	if e != api.OK {
		return nil, e
	}
	if n > api.MaxEntry {
		return nil, api.ErrLimit
	}
	var l []api.Entry
	for range n {
		x, next, e := takeEntry(b, at)
		if e != api.OK {
			return nil, e
		}
		l = append(l, x)
		at = next
	}
	if at < len(b) {
		return nil, api.ErrForm
	}
	return l, api.OK
}

// isEntry: is all of an entry right, but for its bytes?
func isEntry(x api.Entry) bool {
	return record.Name(x.Name) && x.Gen >= 1 && x.Gen <= api.MaxNum && x.Time >= 0 && x.Time <= api.MaxNum
}

// entryBytes is a right entry as it is laid, with its bytes packed: octet has no error.
func entryBytes(x api.Entry, packed []byte) []byte {
	b, _ := octet.Text([]byte(x.Name), api.MaxName)
	b = append(b, nums(x.Gen, x.Time)...)
	text, _ := octet.Text(packed, mostPack)
	return append(b, text...)
}

// takeEntry is the entry at a place, and the place behind it. What stands against the entry is told behind all faults of its bytes.
func takeEntry(b []byte, at int) (api.Entry, int, api.Errno) {
	name, at, e := octet.TakeText(b, at, api.MaxName)
	if e != api.OK {
		return api.Entry{}, 0, e
	}
	x := api.Entry{Name: string(name)}
	at, e = takeNums(b, at, &x.Gen, &x.Time)
	if e != api.OK {
		return api.Entry{}, 0, e
	}
	packed, at, e := octet.TakeText(b, at, mostPack)
	if e != api.OK {
		return api.Entry{}, 0, e
	}
	if !isEntry(x) {
		return api.Entry{}, 0, api.ErrArg
	}
	x.Bytes, e = Unpack(packed)
	if e != api.OK {
		return api.Entry{}, 0, e
	}
	return x, at, api.OK
}

// nums is numbers, one behind the other. All that come here are within octet's limits: there is no error.
func nums(numbers ...int) []byte {
	var b []byte
	for _, n := range numbers {
		one, _ := octet.Num(n)
		b = append(b, one...)
	}
	return b
}

// takeNums takes as many numbers as there are places for them; told is the place behind them.
func takeNums(b []byte, at int, to ...*int) (int, api.Errno) {
	for _, n := range to {
		var e api.Errno
		*n, at, e = octet.TakeNum(b, at)
		if e != api.OK {
			return 0, e
		}
	}
	return at, api.OK
}
