package vault

import "aumbry/api"

// remove is what Delete does.
func (s *store) remove(name string, gen int) api.Answer {
	v, e := s.book.Get(name, gen)
	if e != api.OK {
		return answer(e)
	}
	return answer(s.transact(api.Fact{Kind: api.Dropped, Name: name, Gen: v.Gen}))
}

func (s *store) snap(shot string) api.Answer {
	return answer(s.transact(api.Fact{Kind: api.Snapped, Name: shot, Time: s.book.Now(), Held: s.book.Newest()}))
}

func (s *store) unsnap(shot string) api.Answer {
	return answer(s.transact(api.Fact{Kind: api.Unsnapped, Name: shot}))
}

func (s *store) tick(n int) api.Answer {
	now := s.book.Now()
	if n < 0 || n > api.MaxNum-now {
		return answer(api.ErrArg)
	}
	return answer(s.transact(api.Fact{Kind: api.Ticked, Time: now + n}))
}

func (s *store) expire(k api.Keep) api.Answer {
	// How many there are is told by the book as it is ahead; a Keep that is not right is told by both.
	l, _ := s.book.Expire(k)
	if e := s.transact(api.Fact{Kind: api.Expired, Keep: k}); e != api.OK {
		return answer(e)
	}
	return api.Answer{N: len(l)}
}
