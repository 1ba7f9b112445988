package machine

import (
	"bytes"
	"maps"
	"slices"

	"strata/api"
	"strata/wire"
)

// mark is the byte with which a state begins.
const mark = 'S'

// inOrder is sessions by rising Client, in new memory.
func inOrder(sessions map[int]api.Session) []api.Session {
	var out []api.Session
	for _, client := range slices.Sorted(maps.Keys(sessions)) {
		x := sessions[client]
		x.Reply = bytes.Clone(x.Reply)
		out = append(out, x)
	}
	return out
}

func writeState(sessions []api.Session) []byte {
	body := append([]byte{mark}, number(len(sessions))...)
	for _, x := range sessions {
		body = append(body, number(x.Client)...)
		body = append(body, number(x.Serial)...)
		body = append(body, number(x.Seen)...)
		body = append(body, wire.Bytes(x.Reply)...)
	}
	// A frame takes far more than all sessions can have: replies with a page are not kept.
	frame, _ := wire.Frame(body)
	return frame
}

func number(n int) []byte { return wire.Uint(uint64(n)) }

// readState is the sessions that a state's bytes hold; false: they are no state's, or a client is above the last index.
func readState(b []byte, last int) (map[int]api.Session, bool) {
	body, end, err := wire.ReadFrame(b, 0)
	if err != api.OK || end != len(b) || !bytes.HasPrefix(body, []byte{mark}) {
		return nil, false
	}
	r := reader{b: body, at: 1}
	sessions := map[int]api.Session{}
	ahead := 0
	for range r.number(api.MaxSessions) {
		x := r.session()
		if x.Client <= ahead || x.Client > last {
			return nil, false
		}
		ahead = x.Client
		sessions[x.Client] = x
	}
	if r.broken || r.at < len(body) {
		return nil, false
	}
	return sessions, true
}

// reader takes parts off bytes, from the left.
type reader struct {
	b      []byte
	at     int
	broken bool // a part may not be: then none counts
}

func (r *reader) session() api.Session {
	x := api.Session{Client: r.number(api.MaxIndex), Serial: r.number(api.MaxIndex), Seen: r.number(api.MaxTime), Reply: r.text()}
	if x.Serial == 0 && len(x.Reply) > 0 {
		r.broken = true
	}
	return x
}

func (r *reader) number(most int) int {
	n, end, err := wire.ReadUint(r.b, r.at)
	if err != api.OK || n > uint64(most) {
		r.broken = true
		return 0
	}
	r.at = end
	return int(n)
}

func (r *reader) text() []byte {
	b, end, err := wire.ReadBytes(r.b, r.at, len(r.b))
	if err != api.OK {
		r.broken = true
		return nil
	}
	r.at = end
	return b
}
