package model

import (
	"bytes"
	"maps"
	"slices"

	"aumbry/api"
	"aumbry/record"
)

// version is a generation of a file. Its bytes are never changed, so that forks share them.
type version struct {
	gen, time int
	bytes     []byte
	gone      bool // it is there only as long as a snapshot holds it
}

func (v version) live() bool { return !v.gone }

func (v version) same(w version) bool {
	return v.gen == w.gen && v.time == w.time && v.gone == w.gone && bytes.Equal(v.bytes, w.bytes)
}

// last is the place of the last one that is so; -1, if none is.
func last(l []version, so func(version) bool) int {
	for i := len(l) - 1; i >= 0; i-- {
		if so(l[i]) {
			return i
		}
	}
	return -1
}

// find is a live generation; of 0 it is the greatest one.
func (m *Model) find(name string, gen int) (version, bool) {
	at := last(m.files[name], func(v version) bool { return v.live() && (gen == 0 || v.gen == gen) })
	if at < 0 {
		return version{}, false
	}
	return m.files[name][at], true
}

// remove is what Delete does.
func (m *Model) remove(name string, gen int) api.Answer {
	found, is := m.find(name, gen)
	if !is {
		return answer(api.ErrGone)
	}
	m.drop(func(at string, v version) bool { return at == name && v.gen == found.gen })
	return api.Answer{}
}

func (m *Model) snap(shot string, space bool) api.Answer {
	if !record.Name(shot) {
		return answer(api.ErrArg)
	}
	if _, is := m.shots[shot]; is {
		return answer(api.ErrKnown)
	}
	if len(m.shots) >= api.MaxSnaps {
		return answer(api.ErrLimit)
	}
	if space {
		return answer(api.ErrSpace)
	}
	held := map[string]int{}
	for _, h := range m.Names() {
		held[h.Name] = h.Gen
	}
	m.shots[shot] = held
	return api.Answer{}
}

func (m *Model) unsnap(shot string) api.Answer {
	if !record.Name(shot) {
		return answer(api.ErrArg)
	}
	if _, is := m.shots[shot]; !is {
		return answer(api.ErrGone)
	}
	delete(m.shots, shot)
	m.drop(func(string, version) bool { return false })
	return api.Answer{}
}

func (m *Model) expire(k api.Keep) api.Answer {
	if !rightKeep(k) {
		return answer(api.ErrArg)
	}
	n := 0
	// What stays is told of all ahead of dropping the first: it hangs on what else is live.
	stays := m.staying(k)
	m.drop(func(name string, v version) bool {
		if _, is := stays[api.Held{Name: name, Gen: v.gen}]; is {
			return false
		}
		n++
		return true
	})
	return api.Answer{N: n}
}

func rightKeep(k api.Keep) bool {
	for _, n := range []int{k.Last, k.Young, k.Step, k.Count} {
		if n < 0 || n > api.MaxNum {
			return false
		}
	}
	return k.Step >= 1
}

// drop has those live generations be gone that are to be, and takes away what is gone and that no snapshot holds.
func (m *Model) drop(which func(name string, v version) bool) {
	for _, name := range slices.Sorted(maps.Keys(m.files)) {
		var left []version
		for _, v := range m.files[name] {
			v.gone = v.gone || which(name, v)
			if v.live() || m.held(name, v.gen) {
				left = append(left, v)
			}
		}
		if len(left) > 0 {
			m.files[name] = left
		} else {
			delete(m.files, name)
		}
	}
}

// held: does a snapshot hold a file's generation? None has the number 0.
func (m *Model) held(name string, gen int) bool {
	for _, s := range m.shots {
		if s[name] == gen {
			return true
		}
	}
	return false
}

// staying is the live generations that stay.
func (m *Model) staying(k api.Keep) map[api.Held]struct{} {
	stays := map[api.Held]struct{}{}
	for name, l := range m.files {
		live := slices.DeleteFunc(slices.Clone(l), func(v version) bool { return v.gone })
		spans := spansOf(live, k.Step)
		for i, v := range live {
			span := v.time / k.Step
			newest := i+1 == len(live) || live[i+1].time/k.Step != span
			if len(live)-1-i < k.Last || v.time > m.now-k.Young || newest && isAmongLast(spans, span, k.Count) {
				stays[api.Held{Name: name, Gen: v.gen}] = struct{}{}
			}
		}
	}
	return stays
}

// spansOf is the spans in which generations are, each once, rising: later generations have no elder times.
func spansOf(l []version, step int) []int {
	var spans []int
	for _, v := range l {
		spans = append(spans, v.time/step)
	}
	return slices.Compact(spans)
}

// isAmongLast: is it one of the last count of them?
func isAmongLast(l []int, n, count int) bool {
	return slices.Contains(l[max(len(l)-count, 0):], n)
}
