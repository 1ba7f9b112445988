package replica

import (
	"strata/api"
	"strata/wire"
)

// step lets the node take an event: what is to be done.
func (r *Replica) step(e api.Event) (api.Ready, api.Errno) {
	ready, err := r.node.Step(e)
	if err == api.OK {
		r.stand = stand{term: ready.Hard.Term, leader: ready.Leader, role: ready.Role, commit: ready.Commit}
	}
	return ready, err
}

// take lets the node take an event, and goes on.
func (r *Replica) take(e api.Event) ([]api.Message, api.Errno) {
	ready, err := r.step(e)
	if err != api.OK {
		return nil, err
	}
	return r.goOn(ready)
}

// goOn does what the node wants done, and first of all writes what its messages and what is applied lean on.
func (r *Replica) goOn(ready api.Ready) ([]api.Message, api.Errno) {
	if err := r.save(ready); err != api.OK {
		return nil, err
	}
	out := r.post(ready)
	if err := r.apply(); err != api.OK {
		return nil, err
	}
	if !r.leads() {
		clear(r.sending)
	}
	return out, api.OK
}

func (r *Replica) leads() bool { return r.stand.role == api.RLeader }

// save writes entries in as few records as can be, the lower indices first: so a power failure between two leaves a log without a gap.
func (r *Replica) save(ready api.Ready) api.Errno {
	if !ready.Write {
		return api.OK
	}
	left := ready.Entries
	if len(left) == 0 {
		return r.vital(r.journal.Save(ready.Hard, 0))
	}
	for len(left) > 0 {
		n := fitting(ready.Hard, left)
		if err := r.vital(r.journal.Save(ready.Hard, left[0].Index, left[:n]...)); err != api.OK {
			return err
		}
		left = left[n:]
	}
	return api.OK
}

// fitting tells how many of these entries, from the first on, one record of the journal may hold (chapter 17: its body). One always fits, since none is longer than a command.
func fitting(h api.Hard, l []api.LogEntry) int {
	size := 1 + numberSize(h.Term) + numberSize(h.Vote) + numberSize(l[0].Index)
	for i, e := range l {
		size += numberSize(e.Term) + numberSize(len(e.Data)) + len(e.Data)
		if i > 0 && size+numberSize(i+1) > api.MaxFrame {
			return i
		}
	}
	return len(l)
}

func numberSize(n int) int { return len(wire.Uint(uint64(n))) }

// post is the messages that the node wants sent, and a chunk for each peer that needs a snapshot.
func (r *Replica) post(ready api.Ready) []api.Message {
	var out []api.Message
	for _, m := range ready.Msgs {
		out = append(out, api.Message{Kind: api.PRaft, From: r.id, To: m.To, Raft: m})
	}
	for _, peer := range ready.Snaps {
		out = append(out, r.supply(peer)...)
	}
	return out
}

// apply does what is committed and not applied yet.
func (r *Replica) apply() api.Errno {
	for index := r.tree.Applied() + 1; index <= r.stand.commit; index++ {
		l, err := r.journal.Entries(index, index)
		if err := r.vital(err); err != api.OK {
			return err
		}
		reply, err := r.machine.Apply(index, l[0].Data)
		if err := r.vital(err); err != api.OK {
			return err
		}
		r.answer(l[0], reply)
	}
	return api.OK
}

// answer ends the proposal at an entry's index, if there is one. Of another term's entry the reply is not its.
func (r *Replica) answer(e api.LogEntry, reply []byte) {
	term, is := r.proposals[e.Index]
	if !is {
		return
	}
	delete(r.proposals, e.Index)
	a := api.Answered{Index: e.Index, Term: e.Term}
	if term == e.Term {
		a.Reply = reply
	}
	r.answers = append(r.answers, a)
}
