package replica

import (
	"slices"

	"strata/api"
)

// deed does what a message of one kind asks for.
type deed func(r *Replica, m api.Message, draw int) ([]api.Message, api.Errno)

// deeds are found by a message's Kind.
func deeds() [api.PGot + 1]deed {
	return [...]deed{
		api.PRaft:  (*Replica).takeRaft,
		api.PChunk: (*Replica).takeChunk,
		api.PGot:   (*Replica).takeGot,
	}
}

// Receive takes a message.
func (r *Replica) Receive(m api.Message, draw int) ([]api.Message, api.Errno) {
	if err := r.refusal(); err != api.OK {
		return nil, err
	}
	defer r.look()
	switch {
	case !within(m.Kind, api.PRaft, api.PGot):
		return nil, api.ErrArg
	case m.From == r.id || !slices.Contains(r.peers, m.From) || m.To != r.id:
		return nil, api.ErrPeer
	}
	return deeds()[m.Kind](r, m, draw)
}

func within(n, least, most int) bool { return least <= n && n <= most }

func (r *Replica) takeRaft(m api.Message, draw int) ([]api.Message, api.Errno) {
	for _, e := range m.Raft.Entries {
		if len(e.Data) > api.MaxCommand {
			return nil, api.ErrLong
		}
	}
	return r.take(api.Event{Kind: api.EMsg, Msg: m.Raft, Draw: draw})
}
