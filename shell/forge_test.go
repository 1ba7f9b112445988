package shell_test

import (
	"bytes"
	"encoding/binary"
	"fmt"
	"math/rand"
	"slices"
	"testing"

	"strata/api"
	"strata/cell"
	"strata/manifest"
	"strata/order"
	"strata/run"
	"strata/shell"
)

// forge turns a file's bits over, line by line, until it has these bytes.
func forge(t *testing.T, x *shell.Shell, name string, want []byte) {
	t.Helper()
	have := fileOf(t, x, name).Data
	if len(have) != len(want) {
		t.Fatalf("%s has %d bytes, and %d are wanted", name, len(have), len(want))
	}
	for i := range have {
		for bit := range 8 {
			if (have[i]^want[i])>>bit&1 == 1 {
				play(t, x, turn{fmt.Sprintf("flip %s %d", told([]byte(name)), 8*i+bit), "ok"})
			}
		}
	}
}

// drawNumber is one that may well be at a bound.
func drawNumber(r *rand.Rand) int {
	return max(0, []int{0, 1, 2, r.Intn(100), r.Intn(1 << 20), 1<<40 - 1, 1 << 40, 1<<40 + 1, 1 << 44, 1<<63 - 1}[r.Intn(10)]-r.Intn(2))
}

// drawReply is one that no machine of this table gave, or bytes that are none.
func drawReply(r *rand.Rand) []byte {
	p := api.Reply{Err: api.Errno([]int{0, 0, 0, 1, 999}[r.Intn(5)]), Held: r.Intn(2) == 0, Value: drawNumber(r)}
	for range r.Intn(3) {
		p.Page.Rows = append(p.Page.Rows, api.Row{Row: []byte("r\n"), Cells: []api.Cell{{Fam: r.Intn(8), Qual: []byte("\n"), Ts: 1 + r.Intn(99)}}})
	}
	p.Page.Done = r.Intn(2) == 0
	b, err := order.EncodeReply(p)
	if err != api.OK || r.Intn(4) == 0 {
		return []byte{1, 2, 3}[:r.Intn(4)]
	}
	return b
}

// stateBytes are those of sessions, with bytes behind the last reply so that they come to so many; nil, if they can't.
func stateBytes(l []api.Session, size int) []byte {
	for fill := range size {
		body := []byte{'S'}
		body = binary.AppendUvarint(body, uint64(len(l)))
		for i, s := range l {
			for _, n := range []int{s.Client, s.Serial, s.Seen} {
				body = binary.AppendUvarint(body, uint64(n))
			}
			reply := s.Reply
			if i == len(l)-1 {
				reply = append(slices.Clip(reply), make([]byte, fill)...)
			}
			body = append(binary.AppendUvarint(body, uint64(len(reply))), reply...)
		}
		if b := frame(body); len(b) == size {
			return b
		}
	}
	return nil
}

// drawSessions are some that could be a state's; the last one's reply can be lengthened.
func drawSessions(r *rand.Rand) []api.Session {
	var l []api.Session
	for i := range 1 + r.Intn(6) {
		s := api.Session{Client: 1 + 2*i + r.Intn(2), Serial: 1 + r.Intn(3), Seen: r.Intn(9), Reply: drawReply(r)}
		if r.Intn(30) == 0 {
			s.Seen, s.Serial = drawNumber(r), drawNumber(r)
		}
		l = append(l, s)
	}
	return append(l, api.Session{Client: 24, Serial: 1})
}

// forgedVersion is another version that is written with as many bytes; nil, if there is none.
func forgedVersion(r *rand.Rand, v api.Version, size int) []byte {
	for _, n := range []*int{&v.Gen, &v.Flushed, &v.Next, &v.Low, &v.Clock} {
		if r.Intn(6) == 0 {
			*n = drawNumber(r)
		}
	}
	sessions := drawSessions(r)
	had, garbage := len(v.State), r.Intn(20) == 0
	for n := max(0, had-40); n < had+2; n++ {
		if !garbage {
			v.State = stateBytes(sessions, n)
		} else {
			v.State = bytes.Repeat([]byte{byte(r.Intn(3))}, n)
		}
		if b, err := manifest.Encode(v); err == api.OK && len(b) == size {
			return b
		}
	}
	return nil
}

// forgedRun is another run that is written with as many bytes; nil, if it is not.
func forgedRun(r *rand.Rand, b []byte, m *api.RunMeta) []byte {
	x, err := run.Open(b)
	if err != api.OK {
		return nil
	}
	var l []api.Entry
	for c := x.All(); ; {
		e, more, _ := c.Next()
		if !more {
			break
		}
		for range r.Intn(3) {
			switch r.Intn(5) {
			case 0:
				e.Ts = max(1, drawNumber(r)%(1<<40+1))
			case 1:
				e.Seq = drawNumber(r) % (16*m.Index + 16)
			case 2:
				e.Kind = 1 + r.Intn(5)
			case 3:
				e.Fam = r.Intn(3)
			case 4:
				e.Value = bytes.Repeat([]byte{'\n'}, len(e.Value))
			}
		}
		if e.Kind != api.KPut {
			e.Value = nil
		}
		if e.Kind == api.KFam {
			e.Qual = nil
		}
		l = append(l, e)
	}
	slices.SortFunc(l, cell.Compare)
	o := api.RunOpts{Block: 64, Bits: 10, Index: m.Index, Low: m.Low, Clock: m.Clock}
	forged, err := run.Write(o, l...)
	if err != api.OK || len(forged) != len(b) {
		return nil
	}
	y, _ := run.Open(forged)
	num := m.Num
	*m = y.Meta()
	m.Num = num
	return forged
}

// 20.8: whatever stands on the disk behind bits that were turned over, with sums that are right: each line is answered by one line, and nothing panics.
func TestForgedDisks(t *testing.T) {
	total := manySeeds(t, 800, func(t *testing.T, seed int, count map[string]int) {
		s := newStory(t, 6000+seed, 1<<20)
		first := []line{{"table f 2 0 , g 3 30", func() string {
			return s.m.table(api.Schema{Fams: []api.Family{{Name: "f", Max: 2}, {Name: "g", Max: 3, TTL: 30}}})
		}}, {openLine, func() string { return s.m.open(api.Options{Block: 64, Bits: 10, Mem: 100000, Stall: 8}) }}}
		for range 12 {
			first = append(first, line{"session", func() string { return s.m.apply(api.Command{Kind: api.MOpen}) }})
		}
		for client := range 12 {
			first = append(first, line{text: fmt.Sprintf(`mutate %d 1 "%c" put f "%c" 0 "value"`, 1+client, 'a'+s.r.Intn(5), 'p'+s.r.Intn(3))})
			if client%4 == 3 {
				first = append(first, line{text: "flush"})
			}
		}
		for _, l := range append(first, line{text: "close"}) {
			if l.want != nil {
				l.want()
			}
			do(t, s.x, "%s", l.text)
		}
		s.forge(t, count)
		for range 60 {
			l := s.draw()
			if s.r.Intn(4) == 0 {
				client, serial := 1+s.r.Intn(20), 1+s.r.Intn(3)
				l.text = fmt.Sprintf(pick(s.r, `ask %d %d "" "" 1 9 0`, `mutate %d %d "a" put f "q" 0 "x"`, `end %d %d`), client, serial)
			}
			answer := s.x.Do(l.text)
			mustAnswer(t, l.text, answer)
			if answer == "error 203" {
				s.x.Do(openLine)
			}
			count[answer[:min(2, len(answer))]]++
		}
	})
	t.Log(total)
	atLeast(t, total, map[string]int{"a run": 200, "a version": 600, "opened": 300, "refused": 20, "ok": 5000})
}

// forge puts another version, and other runs, in the place of those on the disk.
func (s *story) forge(t *testing.T, count map[string]int) {
	t.Helper()
	const name = "k.MANIFEST"
	b := fileOf(t, s.x, name).Data
	v, err := manifest.Decode(b)
	mustErr(t, "Decode", err, api.OK)
	forged := map[string][]byte{}
	for i := range v.Runs {
		file := manifest.RunName("k.", v.Runs[i].Num)
		if b := forgedRun(s.r, fileOf(t, s.x, file).Data, &v.Runs[i]); b != nil && s.r.Intn(2) == 0 {
			forged[file] = b
			count["a run"]++
		}
	}
	for range 20 {
		if b := forgedVersion(s.r, v, len(b)); b != nil {
			forged[name] = b
			count["a version"]++
			break
		}
	}
	for file, b := range forged {
		forge(t, s.x, file, b)
	}
	if s.x.Do(openLine)[:2] == "ok" {
		count["opened"]++
	} else {
		count["refused"]++
	}
}
