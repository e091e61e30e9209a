package script

import (
	"strconv"
	"strings"

	"aumbry/api"
	"aumbry/record"
)

const (
	blank   = " "
	plain   = "=" // ahead of bytes that stand as they are
	paired  = "x" // ahead of bytes of two digits each
	ofKeep  = "k" // ahead of what a crash keeps
	noTorn  = "-"
	isTrue  = '1'
	isFalse = '0'

	digits    = "0123456789abcdef"
	digitBits = 4
	minPlain  = 32
	maxPlain  = 126
	none      = -1 // no sector is torn
)

// fault is why a text is no line: it goes up by a panic, past all that is under way.
type fault struct{}

// caught does a step, and is ErrForm, if a fault came up in it.
func caught(step func()) (e api.Errno) {
	defer func() {
		if recover() != nil {
			e = api.ErrForm
		}
	}()
	step()
	return api.OK
}

func stopUnless(right bool) {
	if !right {
		panic(fault{})
	}
}

// words is what is left of a line. Behind the last word there are empty ones alone, which are no number, no name and no bytes.
type words struct {
	left string
	over bool // the last word is taken
}

// word takes the next word.
func (w *words) word() string {
	word, left, more := strings.Cut(w.left, blank)
	w.left, w.over = left, !more
	return word
}

// rest takes all that is left.
func (w *words) rest() string {
	rest := w.left
	w.left, w.over = "", true
	return rest
}

func (w *words) number() int {
	return parsedNumber(w.word())
}

// parsedNumber is a number that is told as strconv tells it: what has a sign, or a 0 ahead, or is too great, is told otherwise, or not at all.
func parsedNumber(word string) int {
	n, err := strconv.Atoi(word)
	stopUnless(err == nil && n >= 0 && n <= api.MaxNum && strconv.Itoa(n) == word)
	return n
}

func (w *words) name() string {
	word := w.word()
	stopUnless(record.Name(word))
	return word
}

func (w *words) keep() []bool {
	flags, is := strings.CutPrefix(w.word(), ofKeep)
	stopUnless(is)
	var l []bool
	for i := range len(flags) {
		stopUnless(flags[i] == isTrue || flags[i] == isFalse)
		l = append(l, flags[i] == isTrue)
	}
	return l
}

func (w *words) torn() int {
	word := w.word()
	if word == noTorn {
		return none
	}
	return parsedNumber(word)
}

func (w *words) bytes() []byte {
	rest := w.rest()
	if text, is := strings.CutPrefix(rest, plain); is {
		b := []byte(text)
		stopUnless(allPlain(b))
		return b
	}
	pairs, is := strings.CutPrefix(rest, paired)
	stopUnless(is && len(pairs)%2 == 0)
	b := make([]byte, 0, len(pairs)/2)
	for i := 0; i < len(pairs); i += 2 {
		b = append(b, digit(pairs[i])<<digitBits|digit(pairs[i+1]))
	}
	return b
}

func digit(x byte) byte {
	n := strings.IndexByte(digits, x)
	stopUnless(n >= 0)
	return byte(n)
}

// allPlain: may all bytes stand as they are?
func allPlain(b []byte) bool {
	for _, x := range b {
		if x < minPlain || x > maxPlain {
			return false
		}
	}
	return true
}

func layBytes(b []byte) string {
	if allPlain(b) {
		return plain + string(b)
	}
	pairs := make([]byte, 0, 2*len(b))
	for _, x := range b {
		pairs = append(pairs, digits[x>>digitBits], digits[x&(1<<digitBits-1)])
	}
	return paired + string(pairs)
}

func layKeep(l []bool) string {
	flags := make([]byte, 0, len(l))
	for _, kept := range l {
		if kept {
			flags = append(flags, isTrue)
		} else {
			flags = append(flags, isFalse)
		}
	}
	return ofKeep + string(flags)
}

// layTorn is what stands for the place that is torn. One below -1 is told as a number, which is none in a line.
func layTorn(n int) string {
	if n == none {
		return noTorn
	}
	return strconv.Itoa(n)
}
