package names

import (
	"maps"
	"slices"

	"aumbry/api"
)

// Expire is the live generations that do not stay.
func (b *Book) Expire(k api.Keep) ([]api.Held, api.Errno) {
	if !b.made() {
		return nil, api.ErrNil
	}
	if k.Last < 0 || k.Young < 0 || k.Step < 1 || k.Count < 0 {
		return nil, api.ErrArg
	}
	var l []api.Held
	b.eachFile(func(name string, versions []api.Version) {
		for _, gen := range expired(live(versions), k, b.now) {
			l = append(l, api.Held{Name: name, Gen: gen})
		}
	})
	return l, api.OK
}

// expired is which of a file's live generations do not stay.
func expired(live []api.Version, k api.Keep, now int) []int {
	latest := latestSpans(live, k)
	var l []int
	for i, v := range live {
		greater := len(live) - 1 - i
		// The time is not below 0: less Young, it does not go round.
		if greater < k.Last || v.Time > now-k.Young || latest[v.Time/k.Step] == v.Gen {
			continue
		}
		l = append(l, v.Gen)
	}
	return l
}

// latestSpans is, of the latest spans in which a file has a live generation, the greatest one in each; a generation is above 0, so a span that is not there has none.
func latestSpans(live []api.Version, k api.Keep) map[int]int {
	latest := map[int]int{}
	for _, v := range live {
		latest[v.Time/k.Step] = v.Gen
	}
	spans := slices.Sorted(maps.Keys(latest))
	for _, span := range spans[:max(len(spans)-k.Count, 0)] {
		delete(latest, span)
	}
	return latest
}
