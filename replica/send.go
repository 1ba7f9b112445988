package replica

import (
	"bytes"

	"strata/api"
)

// parcel is a snapshot that is being sent.
type parcel struct {
	index int
	term  int
	data  []byte
	at    int // how far the other one is; never all of it
}

// supply is the chunk that a peer needs next.
func (r *Replica) supply(peer int) []api.Message {
	base, _ := r.journal.Base()
	// Behind what is below the base the log does not go on any more.
	if p := r.sending[peer]; p == nil || p.index < base {
		p, err := r.pack()
		if err != api.OK {
			return nil
		}
		r.sending[peer] = p
	}
	return r.chunk(peer)
}

// pack is the replica's own snapshot.
func (r *Replica) pack() (*parcel, api.Errno) {
	image, err := r.tree.Image()
	if err != api.OK {
		return nil, err
	}
	term, err := r.journal.Term(image.Index)
	if err != api.OK {
		return nil, err
	}
	return &parcel{index: image.Index, term: term, data: snapshot{term, image}.bytes()}, api.OK
}

// chunk is for a peer to which something is being sent.
func (r *Replica) chunk(peer int) []api.Message {
	p := r.sending[peer]
	end := min(p.at+api.MaxChunk, len(p.data))
	return []api.Message{{
		Kind:  api.PChunk,
		From:  r.id,
		To:    peer,
		Index: p.index,
		Term:  p.term,
		At:    p.at,
		Total: len(p.data),
		Data:  bytes.Clone(p.data[p.at:end]),
	}}
}

func (r *Replica) takeGot(m api.Message, _ int) ([]api.Message, api.Errno) {
	if !within(m.At, 0, api.MaxDisk) || !isPlace(m) {
		return nil, api.ErrSnap
	}
	p := r.sending[m.From]
	if p == nil || p.index != m.Index || p.term != m.Term || m.At > len(p.data) {
		return nil, api.OK
	}
	if m.At == len(p.data) {
		delete(r.sending, m.From)
		return nil, api.OK
	}
	p.at = m.At
	return r.chunk(m.From), api.OK
}

// isPlace: a snapshot may be of that index and term.
func isPlace(m api.Message) bool {
	return within(m.Index, 1, api.MaxIndex) && within(m.Term, 1, api.MaxTerm)
}
