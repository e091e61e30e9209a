package extent

import "aumbry/api"

// span is the sectors from from to to - 1.
type span struct{ from, to int }

func (s span) empty() bool { return s.from == s.to }

func (s span) size() int { return s.to - s.from }

func (s span) run() api.Run { return api.Run{At: s.from, N: s.size()} }

func (s span) within(other span) bool { return other.from <= s.from && s.to <= other.to }

func (s span) meets(other span) bool { return s.from < other.to && other.from < s.to }

// with is the shortest span that has both.
func (s span) with(other span) span {
	return span{min(s.from, other.from), max(s.to, other.to)}
}

// told is what tell says of each of the spans.
func told[T any](spans []span, tell func(span) T) []T {
	var l []T
	for _, s := range spans {
		l = append(l, tell(s))
	}
	return l
}
