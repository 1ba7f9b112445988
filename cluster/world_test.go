package cluster_test

import (
	"bytes"
	"fmt"
	"math/rand"
	"slices"
	"testing"

	"strata/api"
	"strata/cluster"
	"strata/disk"
	"strata/journal"
	"strata/machine"
	"strata/query"
	"strata/replica"
	"strata/retain"
	"strata/tree"
)

// moment is how a tablet is behind an index of its log.
type moment struct {
	entry      api.LogEntry
	reply      []byte
	clock, low int
}

// history is a tablet's one log, as far as anybody has applied it, done by one machine, command by command, over a tree that is never flushed nor compacted.
type history struct {
	t       *testing.T
	tree    *tree.Tree
	machine *machine.Machine
	moments []moment
}

func newHistory(t *testing.T) *history {
	t.Helper()
	d, err := disk.New(0)
	mustErr(t, "disk.New", err, api.OK)
	tr, err := tree.Open(d, "ref", schema, api.Options{Block: 4096, Mem: api.MaxMem, Stall: 64})
	mustErr(t, "tree.Open", err, api.OK)
	m, err := machine.Open(tr)
	mustErr(t, "machine.Open", err, api.OK)
	return &history{t: t, tree: tr, machine: m, moments: []moment{{clock: 1}}}
}

func (h *history) last() int { return len(h.moments) - 1 }

// add is the next entry of the log.
func (h *history) add(e api.LogEntry) {
	h.t.Helper()
	reply, err := h.machine.Apply(e.Index, e.Data)
	mustErr(h.t, "Apply", err, api.OK)
	s := h.machine.Stat()
	h.moments = append(h.moments, moment{e, reply, s.Clock, s.Low})
}

// entries are all that the commands up to an index have written.
func (h *history) entries(upTo int) []api.Entry {
	h.t.Helper()
	v, err := h.tree.Pin()
	mustErr(h.t, "Pin", err, api.OK)
	defer v.Release()
	src, err := v.Walk(nil, nil)
	mustErr(h.t, "Walk", err, api.OK)
	var l []api.Entry
	for e, more, err := src.Next(); more; e, more, err = src.Next() {
		mustErr(h.t, "Next", err, api.OK)
		if e.Seq/16 <= upTo {
			l = append(l, e)
		}
	}
	return l
}

// rows are what chapter 3 reads out of an applied prefix.
func (h *history) rows(upTo, time, n int) []api.Row {
	h.t.Helper()
	clock := h.moments[upTo].clock
	if time == 0 {
		time = clock
	}
	l, err := retain.Read(schema, clock, time, n, h.entries(upTo)...)
	mustErr(h.t, "Read", err, api.OK)
	var out []api.Row
	for _, e := range l {
		if len(out) == 0 || !bytes.Equal(out[len(out)-1].Row, e.Row) {
			out = append(out, api.Row{Row: e.Row})
		}
		r := &out[len(out)-1]
		r.Cells = append(r.Cells, api.Cell{Fam: e.Fam, Qual: e.Qual, Ts: e.Ts, Value: e.Value})
	}
	return out
}

// answer is the page that a question is answered out of rows, which rise.
func answer(t *testing.T, q api.Query, clock int, l []api.Row) (api.Page, api.Errno) {
	t.Helper()
	start, bounded, err := query.Start(q)
	mustErr(t, "Start", err, api.OK)
	l = slices.DeleteFunc(slices.Clone(l), func(r api.Row) bool {
		return bounded && (bytes.Compare(r.Row, start) < 0) != q.Reverse
	})
	if q.Reverse {
		slices.Reverse(l)
	}
	src := listed(l)
	return query.Run(schema, q, clock, &src)
}

// site is a node's replica of a tablet, and what it has said.
type site struct {
	status api.Status     // as it was last
	log    []api.LogEntry // as it was last
	said   int            // the highest term that a message of it told
	votes  map[int]int    // by term
	leaned map[int]word   // by index: entries that a message of it leaned on
}

// word is that there is an entry of a term, said in a term.
type word struct{ term, in int }

// offer is a proposal that was taken.
type offer struct {
	term  int
	floor int     // the last answered index of the tablet when it was made
	by    *client // nil: nobody waits for it
	what  int     // the client's serial, 0: its session's beginning
}

// world is a cluster, and all that was seen of it.
type world struct {
	t         *testing.T
	seed      int
	r         *drawing
	c         api.ClusterConfig
	x         *cluster.Cluster
	histories []*history
	sites     [][]*site // by node, by tablet
	on        []bool
	down      []bool            // of nodes: an answer of ErrDown has come
	offers    map[[3]int]offer  // by node, tablet, index
	floors    map[[3]int][2]int // by tablet, index, term: the last answered index when it was proposed
	answered  []int             // by tablet: the last answered index
	clients   []*client
	away      int          // a node that none hears, or -1
	packets   []api.Packet // under way
	count     map[string]int
	ahead     []string
}

func newWorld(t *testing.T, seed int, count map[string]int, turn func(r *rand.Rand, c *api.ClusterConfig)) *world {
	t.Helper()
	r := rand.New(rand.NewSource(int64(seed)))
	c := config([]int{1, 3, 3, 3, 4, 5, 5, 7}[r.Intn(8)], [][]string{nil, {"h"}, {"d", "k"}}[r.Intn(3)]...)
	c.Disk = 1 << 21
	large := []int{20, 200, 2000}[r.Intn(3)]
	c.Replica.Raft.Least = 4 + r.Intn(3)
	c.Replica.Raft.Most = c.Replica.Raft.Least + 5 + r.Intn(5)
	c.Replica.Raft.Beat = 1 + r.Intn(2)
	c.Replica.Raft.Batch = 1 + r.Intn(16)
	c.Replica.Tree = api.Options{Block: 64 + r.Intn(600), Bits: r.Intn(12), Mem: 200 + r.Intn(10*large), Stall: 12 + r.Intn(20)}
	c.Replica.Policy = api.Policy{Width: 2, Ratio: 2 + r.Intn(4), Most: 4 + r.Intn(4)}
	c.Replica.Segment = 256 + r.Intn(2000)
	if turn != nil {
		turn(r, &c)
	}
	w := &world{t: t, seed: seed, c: c, x: begin(t, c), count: count, away: -1, offers: map[[3]int]offer{}, floors: map[[3]int][2]int{}}
	w.r = &drawing{Rand: r, nodes: c.Nodes, tablets: len(c.Splits) + 1, large: large}
	for range w.r.tablets {
		w.histories = append(w.histories, newHistory(t))
		w.answered = append(w.answered, 0)
	}
	for node := range c.Nodes {
		w.sites = append(w.sites, nil)
		w.on, w.down = append(w.on, true), append(w.down, false)
		for range w.r.tablets {
			w.sites[node] = append(w.sites[node], &site{votes: map[int]int{}, leaned: map[int]word{}})
		}
	}
	for i := range 2 * w.r.tablets {
		w.clients = append(w.clients, newClient(w, i))
	}
	return w
}

func (w *world) fail(node, tablet int, text string, args ...any) {
	w.t.Helper()
	for _, a := range w.ahead[max(0, len(w.ahead)-40):] {
		w.t.Log(a)
	}
	w.t.Fatalf("seed %d, node %d, tablet %d: %s", w.seed, node, tablet, fmt.Sprintf(text, args...))
}

// did looks at the whole cluster behind a call: who named a node has it, else -1; taken: so many packets were taken out.
func (w *world) did(what string, node, taken int, err api.Errno) {
	w.count[fmt.Sprintf("%s %d", what, err)]++
	w.ahead = append(w.ahead, fmt.Sprintf("%s at %d: %d", what, node, err))
	if err == api.ErrDown && node >= 0 {
		w.down[node] = true
	}
	for node := range w.sites {
		for tablet := range w.sites[node] {
			if w.on[node] {
				w.look(what, node, tablet)
			}
		}
	}
	ahead := len(w.packets) - taken
	w.packets = w.x.Packets()
	w.hear(w.packets[ahead:])
	for node := range w.sites {
		for tablet := range w.sites[node] {
			if w.on[node] {
				w.answers(node, tablet)
			}
		}
	}
}

// look: W2: what a replica has applied is a beginning of the tablet's one log.
func (w *world) look(what string, node, tablet int) {
	s, err := w.x.Status(node, tablet)
	x, h := w.sites[node][tablet], w.histories[tablet]
	was := x.status
	x.status = s
	if s == was {
		return
	}
	mustErr(w.t, "Status", err, api.OK)
	if s.Applied < was.Applied || s.Flushed < was.Flushed || s.Term < was.Term && !w.down[node] {
		w.fail(node, tablet, "%s: it goes back from %+v to %+v", what, was, s)
	}
	if s.Applied == was.Applied && s.Last == was.Last && s.Term == was.Term {
		return
	}
	log, err := w.x.Log(node, tablet)
	mustErr(w.t, "Log", err, api.OK)
	old := x.log
	x.log = log
	if len(w.sites) == 1 {
		// A node alone may apply and trim in one tick: what was in its log ahead of that, and the new leader's empty entry.
		log = slices.Concat(log, old)
	}
	if what == "Deliver of 2" && w.down[node] {
		// Its installing was cut off behind the tree's: the log is still the old one, which the snapshot has passed over.
		log = nil
	}
	for i := was.Applied + 1; i <= s.Applied; i++ {
		e := api.LogEntry{Index: i, Term: s.Term}
		at := slices.IndexFunc(log, func(e api.LogEntry) bool { return e.Index == i })
		if at < 0 && (i <= h.last() || len(w.sites) > 1) {
			// A snapshot took it there: by then somebody has applied that.
			w.count["by a snapshot"]++
			continue
		}
		if at >= 0 {
			e = log[at]
		}
		w.applied(node, tablet, e)
	}
	if s.Applied > h.last() {
		w.fail(node, tablet, "%s: it has applied %d, which nobody has seen", what, s.Applied)
	}
}

func (w *world) applied(node, tablet int, e api.LogEntry) {
	w.t.Helper()
	h := w.histories[tablet]
	if e.Index <= h.last() {
		if had := h.moments[e.Index].entry; had.Term != e.Term || !bytes.Equal(had.Data, e.Data) {
			w.fail(node, tablet, "it has applied (%d %d), the log has (%d %d) there", e.Index, e.Term, e.Index, had.Term)
		}
		return
	}
	if e.Index != h.last()+1 {
		w.fail(node, tablet, "it has applied %d, the log ends with %d", e.Index, h.last())
	}
	h.add(e)
	// W3: what was proposed behind an answer's coming stands behind it.
	if f, is := w.floors[[3]int{tablet, e.Index, e.Term}]; is && e.Index <= f[0] {
		w.fail(node, tablet, "(%d %d) was proposed behind the answer of %d", e.Index, e.Term, f[0])
	}
}

// answers: W3: what was proposed is answered as the one log's machine does it, once, in order.
func (w *world) answers(node, tablet int) {
	l, err := w.x.Answers(node, tablet)
	if err != api.OK {
		w.fail(node, tablet, "Answers: %d", err)
	}
	ahead, h := 0, w.histories[tablet]
	for _, a := range l {
		o, is := w.offers[[3]int{node, tablet, a.Index}]
		if !is || a.Index <= ahead || a.Index > w.sites[node][tablet].status.Applied {
			w.fail(node, tablet, "an answer to nothing: %+v", a)
		}
		delete(w.offers, [3]int{node, tablet, a.Index})
		ahead = a.Index
		had := h.moments[a.Index]
		own := o.term == a.Term
		if a.Term != had.entry.Term || own != (len(a.Reply) > 0) || own && !bytes.Equal(a.Reply, had.reply) {
			w.fail(node, tablet, "the answer %+v to a proposal of the term %d, the log has %+v", a, o.term, had)
		}
		w.count[fmt.Sprintf("answered, its own %v", own)]++
		if own {
			w.answered[tablet] = max(w.answered[tablet], a.Index)
		}
		if o.by != nil {
			o.by.hear(w, o, a, own)
		}
	}
}

// hear keeps what packets say and lean on.
func (w *world) hear(l []api.Packet) {
	for _, p := range l {
		m := p.Message
		w.count[fmt.Sprintf("said %d", m.Kind)]++
		if m.Kind != api.PRaft || m.Raft.Kind == api.MPreVote || m.Raft.Kind == api.MPreReply {
			continue
		}
		x := w.sites[m.From-1][p.Tablet]
		x.said = max(x.said, m.Raft.Term)
		vote, upTo := 0, 0
		switch {
		case m.Raft.Kind == api.MVote:
			vote = m.From
		case m.Raft.Kind == api.MVoteReply && !m.Raft.Reject:
			vote = m.To
		case m.Raft.Kind == api.MAppendReply && !m.Raft.Reject:
			upTo = m.Raft.Index
		case m.Raft.Kind == api.MAppend:
			// A leader counts itself as having all of its log.
			upTo = x.status.Last
		}
		if upTo > 0 {
			// In one call an entry may take another one's place without anything else changing.
			log, _ := w.x.Log(m.From-1, p.Tablet)
			for _, e := range log {
				if e.Index <= upTo {
					x.leaned[e.Index] = word{e.Term, m.Raft.Term}
				}
			}
		}
		if vote != 0 {
			if had := x.votes[m.Raft.Term]; had != 0 && had != vote {
				w.fail(m.From-1, p.Tablet, "it votes for %d and %d in the term %d", had, vote, m.Raft.Term)
			}
			x.votes[m.Raft.Term] = vote
		}
	}
}

// keptItsWord: W4: a replica, as it opened anew, with what its journal says, has what its messages and answers leaned on.
func (w *world) keptItsWord(node, tablet int, s api.Status, d *disk.Disk) {
	w.t.Helper()
	x := w.sites[node][tablet]
	j, err := journal.Open(d, fmt.Sprintf("t%d.", tablet), w.c.Replica.Segment)
	mustErr(w.t, "journal.Open", err, api.OK)
	if s.Term < x.said {
		w.fail(node, tablet, "it said the term %d, and opens with %d", x.said, s.Term)
	}
	if vote := x.votes[s.Term]; vote != 0 && j.Hard().Vote != vote {
		w.fail(node, tablet, "it voted for %d in the term %d, and opens with %+v", vote, s.Term, j.Hard())
	}
	if s.Applied != s.Flushed || s.Flushed < x.status.Flushed || s.Flushed > w.histories[tablet].last() {
		w.fail(node, tablet, "it had flushed %d, and opens with %+v", x.status.Flushed, s)
	}
	for i, e := range x.leaned {
		if i <= s.Flushed {
			continue
		}
		term, err := j.Term(i)
		there := err == api.OK && term == e.term
		// Another one may stand there only if a later term's leader has put it there, and never of what is committed.
		if !there && (s.Term == e.in || i <= w.histories[tablet].last() && w.histories[tablet].moments[i].entry.Term == e.term) {
			w.fail(node, tablet, "it said in the term %d that it has (%d %d), and opens with %+v", e.in, i, e.term, s)
		}
	}
}

func load(t *testing.T, capacity int, l []api.File) *disk.Disk {
	t.Helper()
	d, err := disk.Load(capacity, l...)
	mustErr(t, "disk.Load", err, api.OK)
	return d
}

// mightCrash: W4: were the power to fail now, with any tails, the node would open and have what it said.
func (w *world) mightCrash(node int) {
	w.t.Helper()
	d := load(w.t, w.c.Disk, files(w.t, w.x, node))
	d.Crash(w.r.Intn(300)-20, w.r.Intn(300), w.r.Intn(3000))
	rc := w.c.Replica
	rc.Raft.ID, rc.Raft.Peers = node+1, []int{1, 2, 3, 4, 5, 6, 7}[:w.c.Nodes]
	for tablet := range w.r.tablets {
		r, err := replica.Open(d, fmt.Sprintf("t%d.", tablet), schema, rc, 0)
		if err != api.OK {
			w.fail(node, tablet, "were the power to fail now: %d", err)
		}
		w.keptItsWord(node, tablet, r.Status(), d)
	}
	w.count["might have crashed"]++
}

func (w *world) crash(node int) {
	w.t.Helper()
	err := w.x.Crash(node, w.r.Intn(400)-50, w.r.Intn(3000)-50, w.r.Intn(400))
	mustErr(w.t, "Crash", err, api.OK)
	w.on[node], w.down[node] = false, false
	for k := range w.offers {
		if k[0] == node {
			delete(w.offers, k)
		}
	}
	w.did("Crash", node, 0, err)
}

// start: W4: behind any crash it opens again.
func (w *world) start(node int) {
	w.t.Helper()
	err := w.x.Start(node, w.r.Intn(20))
	if err != api.OK {
		w.fail(node, -1, "Start: %d", err)
	}
	w.on[node] = true
	d := load(w.t, w.c.Disk, files(w.t, w.x, node))
	for tablet, x := range w.sites[node] {
		s := status(w.t, w.x, node, tablet)
		w.keptItsWord(node, tablet, s, d)
		x.status = s
		x.log, err = w.x.Log(node, tablet)
		mustErr(w.t, "Log", err, api.OK)
		w.read(node, tablet, api.Query{Time: api.MaxTime, N: 3, Rows: 1000})
	}
	w.did("Start", node, 0, err)
}

// read: W1: a question at a node is answered as by the applied prefix, never compacted; up to so many pages are asked for.
func (w *world) read(node, tablet int, q api.Query) {
	w.t.Helper()
	if w.down[node] {
		return
	}
	i, h := w.sites[node][tablet].status.Applied, w.histories[tablet]
	for range 3 {
		got, err := w.x.Query(node, tablet, q)
		if err == api.ErrDown {
			w.down[node] = true
			return
		}
		if bad := query.Check(schema, q); bad != api.OK {
			mustErr(w.t, "Query", err, bad)
			return
		}
		time, bad := query.At(q, h.moments[i].clock)
		mustErr(w.t, "At", bad, api.OK)
		want, wantErr := answer(w.t, q, h.moments[i].clock, h.rows(i, time, q.N))
		if err != wantErr || pageText(got) != pageText(want) {
			w.fail(node, tablet, "behind %d: %+v: got %s, %d\nwant %s, %d", i, q, pageText(got), err, pageText(want), wantErr)
		}
		w.count["read"]++
		if q.Token = got.Token; got.Done {
			return
		}
	}
}

// scan: W1: a scan is answered as by all tablets' applied prefixes.
func (w *world) scan(node int, q api.Query) {
	w.t.Helper()
	if q.Time == 0 || w.down[node] || query.Check(schema, q) != api.OK {
		return
	}
	var rows []api.Row
	for tablet, h := range w.histories {
		rows = append(rows, h.rows(w.sites[node][tablet].status.Applied, q.Time, q.N)...)
	}
	for range 3 {
		got, err := w.x.Scan(nil, node, q)
		if err == api.ErrDown {
			w.down[node] = true
			return
		}
		want, wantErr := answer(w.t, q, 1, rows)
		if err != wantErr || pageText(got) != pageText(want) {
			w.fail(node, -1, "%+v: got %s, %d\nwant %s, %d", q, pageText(got), err, pageText(want), wantErr)
		}
		w.count["scanned"]++
		if q.Token = got.Token; got.Done {
			return
		}
	}
}

// major: W5: a major compaction that follows a flush leaves just what chapter 3 leaves of all that was applied.
func (w *world) major(node, tablet int) {
	w.t.Helper()
	for range 100 {
		done, err := w.x.Compact(node, tablet, false, 1000)
		w.did(fmt.Sprintf("Compact %v", done), node, 0, err)
		if err != api.OK {
			return
		}
		if !done {
			break
		}
	}
	was := nodeText(w.x, node, w.r.tablets)
	err := w.x.Flush(node, tablet)
	w.did("Flush", node, 0, err)
	if err != api.OK {
		w.undone("Flush", node, err, was)
		return
	}
	i, h := w.sites[node][tablet].status.Applied, w.histories[tablet]
	want, err := retain.Squash(schema, h.moments[i].clock, true, h.moments[i].low, h.entries(i)...)
	mustErr(w.t, "Squash", err, api.OK)
	was = nodeText(w.x, node, w.r.tablets)
	done, err := w.x.Compact(node, tablet, true, 1<<30)
	w.did(fmt.Sprintf("major Compact %v", done), node, 0, err)
	if err != api.OK {
		w.undone("Compact", node, err, was)
		return
	}
	dump, err := w.x.Dump(node, tablet)
	if err == api.ErrDown {
		w.down[node] = true
		return
	}
	got := ""
	for _, run := range dump {
		got += entriesText(run)
	}
	if err != api.OK || len(dump) > 1 || got != entriesText(want) {
		w.fail(node, tablet, "behind %d: got %s, %d\nwant %s", i, dumpText(dump), err, entriesText(want))
	}
	w.count[fmt.Sprintf("major, %d runs", len(dump))]++
	w.read(node, tablet, api.Query{Time: api.MaxTime, N: 3, Rows: 1000})
}

// undone: W4: what a full disk refuses leaves all as it was.
func (w *world) undone(what string, node int, err api.Errno, was string) {
	w.t.Helper()
	if err == api.ErrDown || err == api.ErrHalted {
		return
	}
	if err != api.ErrFull && err != api.ErrFiles {
		w.fail(node, -1, "%s: %d", what, err)
	}
	if _, err := w.x.Dump(node, 0); err == api.ErrDown {
		// What was written was taken away again, and that was the act at which the disk went down.
		w.down[node] = true
		return
	}
	if got := nodeText(w.x, node, w.r.tablets); got != was {
		w.fail(node, -1, "%s without room: got %s\nwant %s", what, got, was)
	}
	w.count[what+" undone"]++
}

// propose proposes a command; by: who waits for its answer.
func (w *world) propose(what string, node, tablet int, c api.Command, by *client, serial int) (int, int, api.Errno) {
	w.t.Helper()
	floor := w.answered[tablet]
	index, term, err := w.x.Propose(node, tablet, c)
	switch {
	case err == api.OK:
		w.offers[[3]int{node, tablet, index}] = offer{term, floor, by, serial}
		w.floors[[3]int{tablet, index, term}] = [2]int{floor}
	case index != 0 || term != 0:
		w.fail(node, tablet, "Propose: %d, %d beside %d", index, term, err)
	}
	w.did(what, node, 0, err)
	return index, term, err
}

// leader is a node that thinks that it leads a tablet; -1: there is none.
func (w *world) leader(tablet int) int {
	var l []int
	for node := range w.sites {
		if w.on[node] && w.sites[node][tablet].status.Role == api.RLeader {
			l = append(l, node)
		}
	}
	if len(l) == 0 {
		return -1
	}
	return l[w.r.Intn(len(l))]
}

// isOff tells whether an error says nothing of the command itself.
func isOff(err api.Errno) bool {
	return slices.Contains([]api.Errno{api.ErrDown, api.ErrHalted, api.ErrBusy, api.ErrNotLeader, api.ErrHandOver}, err)
}
