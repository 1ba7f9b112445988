package machine

import (
	"bytes"

	"strata/api"
	"strata/order"
)

// step is a command that is being done: what the machine is behind it, once the tree has taken the index.
type step struct {
	machine  *Machine
	index    int
	clock    int
	low      int
	sessions map[int]api.Session
	entries  []api.Entry
}

// deed does what a command of one kind asks for. Its reply may be a refusal; an error is the tree's, and then the index is not taken.
type deed func(*step, api.Command) (api.Reply, api.Errno)

// deeds are found by a command's Kind.
func deeds() [api.MRead + 1]deed {
	return [...]deed{
		api.MNoop:    (*step).rest,
		api.MOpen:    (*step).open,
		api.MClose:   (*step).end,
		api.MMutate:  (*step).mutate,
		api.MTick:    (*step).tick,
		api.MAdvance: (*step).advance,
		api.MRead:    (*step).read,
	}
}

// answer is the reply's bytes to whatever bytes came.
func (s *step) answer(command []byte) ([]byte, api.Errno) {
	c, err := order.Decode(s.machine.schema, command)
	switch {
	case err != api.OK:
		return refusal(err), api.OK
	case c.Client == 0:
		return s.do(c)
	}
	return s.doOnce(c)
}

func (s *step) do(c api.Command) ([]byte, api.Errno) {
	reply, err := deeds()[c.Kind](s, c)
	if err != api.OK {
		return nil, err
	}
	return written(reply), api.OK
}

// doOnce does a command of a session, unless it was done already, or is not the next one.
func (s *step) doOnce(c api.Command) (reply []byte, err api.Errno) {
	x, is := s.sessions[c.Client]
	if !is {
		return refusal(api.ErrSession), api.OK
	}
	again, next := c.Serial == x.Serial, c.Serial == x.Serial+1
	isRead := c.Kind == api.MRead
	switch {
	case again && len(x.Reply) > 0:
		reply = bytes.Clone(x.Reply)
	case next, again && isRead:
		if reply, err = s.do(c); err != api.OK {
			return nil, err
		}
		x.Serial, x.Reply = c.Serial, bytes.Clone(reply)
		if isRead {
			x.Reply = nil
		}
	default:
		return refusal(api.ErrSerial), api.OK
	}
	s.hear(x)
	return reply, api.OK
}

// hear keeps what has become of a session, unless its command has ended it.
func (s *step) hear(x api.Session) {
	if _, lives := s.sessions[x.Client]; lives {
		x.Seen = s.clock
		s.sessions[x.Client] = x
	}
}

// written is a reply's bytes; in the place of a page that is too long stands that it is.
func written(r api.Reply) []byte {
	b, err := order.EncodeReply(r)
	if err != api.OK {
		return refusal(err)
	}
	return b
}

func refusal(err api.Errno) []byte {
	b, _ := order.EncodeReply(api.Reply{Err: err})
	return b
}

func (s *step) rest(api.Command) (api.Reply, api.Errno) { return api.Reply{}, api.OK }

func (s *step) open(api.Command) (api.Reply, api.Errno) {
	if len(s.sessions) >= api.MaxSessions {
		return api.Reply{Err: api.ErrSessions}, api.OK
	}
	s.sessions[s.index] = api.Session{Client: s.index, Seen: s.clock}
	return api.Reply{Value: s.index}, api.OK
}

func (s *step) end(c api.Command) (api.Reply, api.Errno) {
	delete(s.sessions, c.Client)
	return api.Reply{}, api.OK
}

func (s *step) tick(c api.Command) (api.Reply, api.Errno) {
	if s.clock+c.N > api.MaxTime {
		return api.Reply{Err: api.ErrLast}, api.OK
	}
	s.clock += c.N
	for client, x := range s.sessions {
		if x.Seen+api.SessionLife <= s.clock {
			delete(s.sessions, client)
		}
	}
	return api.Reply{Value: s.clock}, api.OK
}

func (s *step) advance(c api.Command) (api.Reply, api.Errno) {
	if c.N < s.low || c.N >= s.clock {
		return api.Reply{Err: api.ErrBack}, api.OK
	}
	s.low = c.N
	return api.Reply{Value: s.low}, api.OK
}

// read may use the last view, which Query leaves it. Decode took the question: what is refused here the tree refuses.
func (s *step) read(c api.Command) (api.Reply, api.Errno) {
	page, err := s.machine.ask(c.Query, 0)
	return api.Reply{Page: page}, err
}
