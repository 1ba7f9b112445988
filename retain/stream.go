package retain

import "strata/api"

// stream hands a walk's entries in, one by one, and hands out what is put behind one another meanwhile.
type stream struct {
	walk *walk
	out  []api.Entry
}

func (s *stream) push(e api.Entry) ([]api.Entry, api.Errno) {
	err := s.walk.push(e)
	return s.handOut(), err
}

func (s *stream) end() []api.Entry {
	s.walk.end()
	return s.handOut()
}

func (s *stream) over(l []api.Entry) ([]api.Entry, api.Errno) {
	err := s.walk.over(l)
	return s.handOut(), err
}

func (s *stream) add(e api.Entry) { s.out = append(s.out, clone(e)) }

// handOut gives what there is away for good: what comes later goes into new memory.
func (s *stream) handOut() []api.Entry {
	out := s.out
	s.out = nil
	return out
}
