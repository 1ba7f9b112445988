package replica_test

import (
	"bytes"
	"fmt"
	"math"
	"testing"

	"strata/api"
	"strata/disk"
	"strata/journal"
	"strata/replica"
	"strata/tree"
)

// mustNotPropose: a command is refused, and nothing has changed.
func mustNotPropose(t *testing.T, what string, r *replica.Replica, d *disk.Disk, command []byte, want api.Errno) {
	t.Helper()
	files, status, log := d.Files(), r.Status(), entriesText(r.Log())
	index, term, l, err := r.Propose(command)
	if index != 0 || term != 0 || len(l) > 0 || err != want {
		t.Errorf("%s: %d, %d, %s, %d, want %d", what, index, term, text(l), err, want)
	}
	if !sameFiles(files, d.Files()) || r.Status() != status || entriesText(r.Log()) != log {
		t.Errorf("%s: something has changed", what)
	}
}

// 18.9: what is refused, and in which order.
func TestProposeRefuses(t *testing.T) {
	long := make([]byte, api.MaxCommand+1)
	// By runs.
	c := config(1, 1)
	c.Tree.Stall = 2
	r, d := alone(t, 1<<20, c)
	propose(t, r, put(t, "a", "1"))
	flush(t, r)
	propose(t, r, put(t, "b", "2"))
	flush(t, r)
	mustNotPropose(t, "stalled by runs", r, d, noop(t), api.ErrBusy)
	mustNotPropose(t, "stalled and too long", r, d, long, api.ErrLong)
	x := open(t, d, c)
	mustNotPropose(t, "stalled, and no leader", x, d, noop(t), api.ErrBusy)
	mustNotPropose(t, "stalled, no leader, too long", x, d, long, api.ErrLong)
	// By the memtable.
	c = config(1, 1)
	c.Tree.Mem = 1100
	r, d = alone(t, 1<<20, c)
	propose(t, r, puts(t, "a", 1, 'x'))
	propose(t, r, puts(t, "b", 1, 'x'))
	mustNotPropose(t, "stalled by the memtable", r, d, noop(t), api.ErrBusy)
	flush(t, r)
	propose(t, r, noop(t))
	mustNotPropose(t, "too long", r, d, long, api.ErrLong)
	propose(t, r, long[1:])
	// By raft.
	g := newGroup(t, 3)
	mustNotPropose(t, "no leader", g.of(2), g.disks[1], noop(t), api.ErrNotLeader)
	g.lead(1)
	mustNotPropose(t, "another leader", g.of(2), g.disks[1], noop(t), api.ErrNotLeader)
	mustNotPropose(t, "another leader, too long", g.of(2), g.disks[1], long, api.ErrLong)
	_, err := g.of(1).HandOver(3)
	mustErr(t, "HandOver", err, api.OK)
	mustNotPropose(t, "a heir", g.of(1), g.disks[0], noop(t), api.ErrHandOver)
}

// 18.9: at the last index there is no other one.
func TestProposeAtTheLastIndex(t *testing.T) {
	d := newDisk(t, 1<<20)
	x, err := tree.Open(d, "a", schema, config(1, 1).Tree)
	mustErr(t, "tree.Open", err, api.OK)
	mustErr(t, "Install", x.Install(api.Image{Index: api.MaxIndex - 2, Clock: 1}), api.OK)
	j, err := journal.Open(d, "a", 1024)
	mustErr(t, "journal.Open", err, api.OK)
	mustErr(t, "Reset", j.Reset(api.Hard{Term: 1, Vote: 1}, api.MaxIndex-2, 1), api.OK)
	r := open(t, d, config(1, 1))
	lead(t, r)
	index, term, _, err := r.Propose(noop(t))
	if index != api.MaxIndex || term != 2 || err != api.OK || len(r.Answers()) != 1 {
		t.Fatalf("%d, %d, %d", index, term, err)
	}
	mustNotPropose(t, "behind the last index", r, d, noop(t), api.ErrLastIndex)
	flush(t, r)
	if s := r.Status(); s.First != api.MaxIndex+1 || s.Last != api.MaxIndex || s.Applied != api.MaxIndex {
		t.Errorf("%+v", s)
	}
	open(t, d, config(1, 1))
}

// 18.9, 18.10: each proposal is answered once, in the order in which it was applied, with the reply to it; also what is no command.
func TestAnswers(t *testing.T) {
	g := newGroup(t, 3)
	g.lead(1)
	r := g.of(1)
	if a := r.Answers(); len(a) > 0 {
		t.Errorf("of nobody's: %+v", a)
	}
	var said []api.Message
	commands := [][]byte{encode(t, api.Command{Kind: api.MOpen}), put(t, "a", "1"), []byte("none"), nil, encode(t, api.Command{Kind: api.MTick, N: 4})}
	for i, c := range commands {
		index, term, l, err := r.Propose(c)
		if index != 2+i || term != 1 || err != api.OK || len(l) != 2 {
			t.Fatalf("Propose: %d, %d, %s, %d", index, term, text(l), err)
		}
		said = append(said, l...)
	}
	if a := r.Answers(); len(a) > 0 || r.Status().Applied != 1 {
		t.Errorf("ahead of its being committed: %+v", a)
	}
	g.wire = said
	g.settle()
	a := r.Answers()
	if len(a) != len(commands) {
		t.Fatalf("%d answers: %+v", len(a), a)
	}
	for i, x := range a {
		if x.Index != 2+i || x.Term != 1 || len(x.Reply) == 0 {
			t.Errorf("%+v", x)
		}
	}
	if x := replyOf(t, a[0]); x.Value != 2 || x.Err != api.OK {
		t.Errorf("MOpen: %+v", x)
	}
	if x := replyOf(t, a[1]); !x.Held || x.Err != api.OK {
		t.Errorf("a put: %+v", x)
	}
	for _, i := range []int{2, 3} {
		if x := replyOf(t, a[i]); x.Err != api.ErrCommand {
			t.Errorf("no command: %+v", x)
		}
	}
	if x := replyOf(t, a[4]); x.Value != 5 {
		t.Errorf("MTick: %+v", x)
	}
	for id := 1; id <= 3; id++ {
		if a := g.of(id).Answers(); len(a) > 0 {
			t.Errorf("%d: %+v", id, a)
		}
	}
	// They may be asked for late.
	for i := range 3 {
		g.propose(1, put(t, fmt.Sprint(i), "v"))
	}
	if a := r.Answers(); len(a) != 3 || a[0].Index != 7 || a[2].Index != 9 {
		t.Errorf("%+v", a)
	}
}

// 18.3, 18.9: proposals that another leader's entries take the place of are answered so; an older one at the same index is forgotten.
func TestAnswersOfOthers(t *testing.T) {
	g := newGroup(t, 3)
	g.lead(2)
	g.propose(2, put(t, "a", "1"))
	r := g.of(2)
	r.Answers()
	// The indices 3 to 6 nobody hears of.
	for i := range 4 {
		index, _, _, err := r.Propose(put(t, fmt.Sprint("lost", i), "v"))
		if index != 3+i || err != api.OK {
			t.Fatal(index, err)
		}
	}
	// Another leader puts one entry there; then this one leads again, and the index 4 is its empty entry, 5 a proposal of its own.
	receive(t, r, appending(2, 2, 1, 2, entries(t, 3, 1, 2)...))
	if s := r.Status(); s.Last != 3 {
		t.Fatalf("%+v", s)
	}
	for range 6 {
		tick(t, g.of(1))
		tick(t, g.of(3))
	}
	g.lead(2)
	index, term := g.propose(2, put(t, "mine", "v"))
	if s := r.Status(); index != 5 || term != s.Term || term < 3 || s.Applied != 5 {
		t.Fatalf("%d, %d, %+v", index, term, s)
	}
	a := r.Answers()
	if len(a) != 3 {
		t.Fatalf("%+v", a)
	}
	for i, want := range []api.Answered{{Index: 3, Term: 2}, {Index: 4, Term: term}} {
		if a[i].Index != want.Index || a[i].Term != want.Term || len(a[i].Reply) > 0 {
			t.Errorf("%+v, want %+v", a[i], want)
		}
	}
	if a[2].Index != 5 || a[2].Term != term || !replyOf(t, a[2]).Held {
		t.Errorf("%+v", a[2])
	}
	// The one at 6 is still open.
	g.propose(2, put(t, "more", "v"))
	if a := r.Answers(); len(a) != 1 || a[0].Index != 6 || !replyOf(t, a[0]).Held {
		t.Errorf("%+v", a)
	}
}

// 18.10: a hand-over is raft's.
func TestHandOver(t *testing.T) {
	g := newGroup(t, 3)
	refused := func(id, peer int, want api.Errno) {
		t.Helper()
		if l, err := g.of(id).HandOver(peer); len(l) > 0 || err != want {
			t.Errorf("HandOver(%d) of %d: %s, %d, want %d", peer, id, text(l), err, want)
		}
	}
	refused(1, 2, api.ErrNotLeader)
	for _, peer := range []int{math.MinInt, -1, 0, 1, 4, 7, math.MaxInt} {
		refused(1, peer, api.ErrEvent)
	}
	g.lead(1)
	refused(1, 1, api.ErrEvent)
	refused(2, 3, api.ErrNotLeader)
	l, err := g.of(1).HandOver(3)
	mustErr(t, "HandOver", err, api.OK)
	mustSend(t, "HandOver", l, raftMsg(api.Msg{Kind: api.MHandOver, From: 1, To: 3, Term: 1}))
	g.wire = l
	g.settle()
	if s := g.of(3).Status(); s.Role != api.RLeader || s.Term != 2 || g.of(1).Status().Leader != 3 {
		t.Errorf("%+v, %+v", s, g.of(1).Status())
	}
}

// 18.10: what is asked is the machine's, at any replica.
func TestQuery(t *testing.T) {
	g := newGroup(t, 3)
	g.lead(1)
	for i := range 5 {
		g.propose(1, put(t, fmt.Sprint("row", i), "v"))
	}
	g.tick(1)
	for id := 1; id <= 3; id++ {
		r := g.of(id)
		for _, q := range []api.Query{{N: 1, Rows: 2}, {N: 1, Rows: 9, Reverse: true}, {}, {N: 1, Rows: 9, Where: "("}, {N: 1, Rows: 9, Token: []byte("x")}} {
			a, err := r.Query(q)
			b, want := r.Machine().Query(q)
			if err != want || fmt.Sprint(a) != fmt.Sprint(b) {
				t.Errorf("%d: %+v: %v, %d, want %v, %d", id, q, a, err, b, want)
			}
		}
		if p, err := r.Query(api.Query{N: 1, Rows: 9}); err != api.OK || len(p.Rows) != 5 || !p.Done {
			t.Errorf("%d: %+v, %d", id, p, err)
		}
	}
}

// 18.11: a flush writes what was applied, and the log up to it goes.
func TestFlush(t *testing.T) {
	g := newGroup(t, 3)
	g.lead(1)
	g.propose(1, put(t, "a", "1"))
	// Not committed yet: it stays in the log.
	_, _, _, err := g.of(1).Propose(put(t, "b", "2"))
	mustErr(t, "Propose", err, api.OK)
	for _, c := range []struct{ id, applied, last int }{{1, 2, 3}, {2, 2, 2}} {
		r, d := g.of(c.id), g.disks[c.id-1]
		for range 2 {
			flush(t, r)
			s := r.Status()
			if s.Flushed != c.applied || s.First != c.applied+1 || s.Last != c.last || s.Applied != c.applied || len(r.Log()) != c.last-c.applied {
				t.Errorf("%d: %+v", c.id, s)
			}
			if j := journalOf(t, d); j.base != c.applied || j.baseTerm != 1 || j.last() != c.last {
				t.Errorf("%d: the journal says %+v", c.id, j)
			}
			x := treeOf(t, d)
			if x.Flushed() != c.applied || !bytes.Equal(x.State(), r.Machine().State()) {
				t.Errorf("%d: the tree on the disk has %d", c.id, x.Flushed())
			}
		}
	}
	// A second one trims nothing, and writes a manifest nevertheless.
	acts := g.disks[1].Counts()
	flush(t, g.of(2))
	if n := g.disks[1].Counts(); n.Renames != acts.Renames+1 || n.Deletes != acts.Deletes {
		t.Errorf("%+v, %+v", acts, n)
	}
	// A flush of nothing at all.
	d := newDisk(t, 1<<20)
	r := open(t, d, config(1, 3))
	flush(t, r)
	if s := r.Status(); s != (api.Status{ID: 1, Role: api.RFollower, First: 1}) || !has(d, "aMANIFEST") {
		t.Errorf("%+v, %s", s, told(d))
	}
}

// 18.11, 18.16: a flush that finds no room says so and changes nothing; one whose trim finds none is done nevertheless, and the log stays.
func TestFlushWithoutRoom(t *testing.T) {
	counts := map[string]int{}
	for room := 0; room < 9000; room += 97 {
		g := newGroup(t, 3)
		g.lead(1)
		r, d := g.of(1), g.disks[0]
		g.propose(1, put(t, "a", "1"))
		flush(t, r)
		g.propose(1, put(t, "b", "2"))
		// What is not committed yet stays in the log: a trim of it is longer than the run.
		_, _, _, err := r.Propose(bytes.Repeat([]byte("x"), 4000))
		mustErr(t, "Propose", err, api.OK)
		mustErr(t, "Create", d.Create("zz"), api.OK)
		mustErr(t, "Append", d.Append("zz", make([]byte, d.Free()-room)), api.OK)
		before, files := r.Status(), d.Files()
		err = r.Flush()
		switch s := r.Status(); {
		case err == api.ErrFull:
			counts["none"]++
			if s != before || !sameFiles(files, d.Files()) {
				t.Fatalf("%d bytes: %+v, want %+v", room, s, before)
			}
		case err == api.OK && s.Flushed == 3 && s.First == 3:
			counts["no trim"]++
			if len(r.Log()) != 2 || has(d, "aJ.TMP") {
				t.Fatalf("%d bytes: log %s", room, entriesText(r.Log()))
			}
		case err == api.OK && s.Flushed == 3 && s.First == 4:
			counts["all"]++
		default:
			t.Fatalf("%d bytes: %d, %+v", room, err, s)
		}
		// With room the next one does it all.
		mustErr(t, "Delete", d.Delete("zz"), api.OK)
		flush(t, r)
		g.tick(1)
		if s := r.Status(); s.Flushed != 3 || s.First != 4 || s.Applied != 4 || s.Halted {
			t.Fatalf("%d bytes: behind it %+v", room, s)
		}
		open(t, d, config(1, 3))
	}
	if counts["none"] == 0 || counts["no trim"] == 0 || counts["all"] == 0 {
		t.Errorf("%v", counts)
	}
}

// 18.11: a trim that finds no file is let go, too.
func TestFlushWithoutAFile(t *testing.T) {
	r, d := alone(t, 1<<20, config(1, 1))
	propose(t, r, noop(t))
	// The manifest takes the last one.
	for i := len(d.List("")); i < api.MaxFiles-1; i++ {
		mustErr(t, "Create", d.Create(fmt.Sprint("z", i)), api.OK)
	}
	flush(t, r)
	if s := r.Status(); s.Flushed != 2 || s.First != 1 || len(r.Log()) != 2 {
		t.Errorf("%+v", s)
	}
	mustErr(t, "Delete", d.Delete("z254"), api.OK)
	flush(t, r)
	if s := r.Status(); s.Flushed != 2 || s.First != 3 || len(r.Log()) != 0 {
		t.Errorf("%+v", s)
	}
	// The run finds none.
	propose(t, r, put(t, "a", "1"))
	mustErr(t, "Create", d.Create("z254"), api.OK)
	mustErr(t, "Flush", r.Flush(), api.ErrFiles)
	if s := r.Status(); s.Flushed != 2 || s.Applied != 3 {
		t.Errorf("%+v", s)
	}
}

// 18.11, 18.14: power fails at any act of a flush, in a tick and alone: nothing is lost.
func TestFlushWherePowerFails(t *testing.T) {
	for _, inTick := range []bool{false, true} {
		for n, over := 1, false; !over; n++ {
			for _, cut := range []int{0, 9, 1 << 20} {
				what := fmt.Sprintf("in a tick %v, at act %d, %d bytes stay", inTick, n, cut)
				c := config(1, 1)
				c.Tree.Mem = 20
				r, d := alone(t, 1<<20, c)
				propose(t, r, put(t, "a", "1"), put(t, "b", "2"))
				flush(t, r)
				propose(t, r, put(t, "c", "3"))
				sum := digest(t, r)
				d.Arm(n)
				var l []api.Message
				var err api.Errno
				if inTick {
					l, err = r.Tick(0)
				} else {
					err = r.Flush()
				}
				if over = err == api.OK; over {
					break
				}
				if err != api.ErrDown || len(l) > 0 {
					t.Fatalf("%s: %d", what, err)
				}
				mustRefuse(t, what, r, d, api.ErrDown)
				d.Crash(cut, cut)
				x := open(t, d, c)
				if s := x.Status(); s.Last != 4 || s.Flushed != 3 && s.Flushed != 4 || s.First > s.Flushed+1 {
					t.Fatalf("%s: %+v", what, s)
				}
				c.Tree.Mem = 1 << 16
				x = open(t, d, c)
				lead(t, x)
				if digest(t, x) != sum || x.Status().Applied != 5 {
					t.Fatalf("%s: %+v", what, x.Status())
				}
			}
		}
	}
}

// heaped is a node alone with so many runs of like size.
func heaped(t *testing.T, runs int) (*replica.Replica, *disk.Disk) {
	t.Helper()
	r, d := alone(t, 1<<20, config(1, 1))
	for i := range runs {
		propose(t, r, put(t, fmt.Sprint("row", i), "v"), put(t, "all", fmt.Sprint(i)))
		flush(t, r)
	}
	return r, d
}

// 18.12: a compaction is begun if none is under way, and stepped; whatever is handed in then, it is that one.
func TestCompact(t *testing.T) {
	step := func(r *replica.Replica, major bool, n int, want bool) {
		t.Helper()
		if done, err := r.Compact(major, n); done != want || err != api.OK {
			t.Fatalf("Compact(%v, %d): %v, %d, want %v", major, n, done, err, want)
		}
	}
	for _, n := range []int{math.MinInt, -1, 0, 1, 5, math.MaxInt} {
		r, _ := heaped(t, 0)
		step(r, true, n, false)
		step(r, false, n, false)
		if r.Tree().Pins() > 0 {
			t.Error("a job of nothing is under way")
		}
	}
	// A major one of all, at once and step by step.
	r, _ := heaped(t, 3)
	sum := digest(t, r)
	step(r, true, 100, true)
	if len(r.Tree().Runs()) != 1 || digest(t, r) != sum || r.Tree().Pins() > 0 {
		t.Errorf("%d runs", len(r.Tree().Runs()))
	}
	step(r, true, 100, true) // of the one run again
	step(r, false, 100, false)
	r, _ = heaped(t, 3)
	for range 3 {
		step(r, true, 0, false)
		step(r, false, -1, false)
	}
	for range 5 {
		step(r, true, 1, false)
		if r.Tree().Pins() != 1 || len(r.Tree().Runs()) != 3 {
			t.Errorf("%d views, %d runs", r.Tree().Pins(), len(r.Tree().Runs()))
		}
	}
	step(r, false, 1, true)
	if len(r.Tree().Runs()) != 1 || digest(t, r) != sum || r.Tree().Pins() > 0 {
		t.Errorf("%d runs", len(r.Tree().Runs()))
	}
	// A minor one of two: the policy's; a major one that is asked for meanwhile is not begun.
	r, _ = heaped(t, 3)
	step(r, false, 1, false)
	step(r, true, 100, true)
	if n := len(r.Tree().Runs()); n != 2 || digest(t, r) != sum {
		t.Errorf("%d runs", n)
	}
	// What is applied and flushed beside it stays.
	r, _ = heaped(t, 2)
	step(r, true, 1, false)
	propose(t, r, put(t, "beside", "v"))
	flush(t, r)
	sum = digest(t, r)
	step(r, true, 100, true)
	if n := len(r.Tree().Runs()); n != 2 || digest(t, r) != sum {
		t.Errorf("%d runs", n)
	}
}

// 18.12: a job of all runs is a major one, also where the policy picks them: what nobody sees goes.
func TestCompactCollects(t *testing.T) {
	for _, major := range []bool{true, false} {
		r, _ := alone(t, 1<<20, config(1, 1))
		propose(t, r, put(t, "a", "1"))
		flush(t, r)
		propose(t, r, encode(t, api.Command{Kind: api.MMutate, Row: []byte("a"), Ops: []api.Op{{Kind: api.OCol, Qual: []byte("q")}}}), encode(t, api.Command{Kind: api.MTick, N: 5}), encode(t, api.Command{Kind: api.MAdvance, N: 4}))
		flush(t, r)
		if done, err := r.Compact(major, 100); !done || err != api.OK || len(r.Tree().Runs()) != 0 {
			t.Errorf("major %v: %v, %d, %d runs", major, done, err, len(r.Tree().Runs()))
		}
	}
}

// 18.12, 18.16: an error ends the job; without room all is as it was, and it goes on.
func TestCompactThatIsRefused(t *testing.T) {
	r, d := heaped(t, 3)
	var views []func()
	for range api.MaxPins {
		v, err := r.Tree().Pin()
		mustErr(t, "Pin", err, api.OK)
		views = append(views, v.Release)
	}
	for _, major := range []bool{true, false} {
		if done, err := r.Compact(major, 1); done || err != api.ErrPins {
			t.Errorf("%v, %d", done, err)
		}
	}
	for _, release := range views {
		release()
	}
	sum := digest(t, r)
	mustErr(t, "Create", d.Create("zz"), api.OK)
	mustErr(t, "Append", d.Append("zz", make([]byte, d.Free()-10)), api.OK)
	files := d.Files()
	for range 2 {
		if done, err := r.Compact(true, 2); done || err != api.OK || r.Tree().Pins() != 1 {
			t.Fatalf("%v, %d", done, err)
		}
		if done, err := r.Compact(true, 100); done || err != api.ErrFull || r.Tree().Pins() != 0 {
			t.Fatalf("%v, %d", done, err)
		}
	}
	if !sameFiles(files, d.Files()) || len(r.Tree().Runs()) != 3 || digest(t, r) != sum || r.Status().Halted {
		t.Error("something has changed")
	}
	mustErr(t, "Delete", d.Delete("zz"), api.OK)
	if done, err := r.Compact(true, 100); !done || err != api.OK || digest(t, r) != sum {
		t.Fatalf("%v, %d", done, err)
	}
}

// 18.12, 18.14: power fails at any act of it: the old runs or the new one.
func TestCompactWherePowerFails(t *testing.T) {
	for n, over := 1, false; !over; n++ {
		r, d := heaped(t, 3)
		sum := digest(t, r)
		d.Arm(n)
		done, err := r.Compact(true, 100)
		if over = err == api.OK; over {
			if n < 8 {
				t.Errorf("%d acts", n-1)
			}
			break
		}
		if done || err != api.ErrDown {
			t.Fatalf("at act %d: %v, %d", n, done, err)
		}
		mustRefuse(t, "down", r, d, api.ErrDown)
		d.Crash(n, n)
		x := open(t, d, config(1, 1))
		if k := len(x.Tree().Runs()); k != 3 && k != 1 || digest(t, x) != sum {
			t.Fatalf("at act %d: %d runs", n, k)
		}
	}
}

// 18.13: all that Status tells, of a leader, a follower and one that stages.
func TestStatus(t *testing.T) {
	g := newGroup(t, 3)
	g.lead(1, 2)
	for i := range 3 {
		g.propose(1, puts(t, fmt.Sprint("row", i), 4, 'x'), 2)
	}
	flush(t, g.of(1))
	_, _, _, err := g.of(1).Propose(noop(t))
	mustErr(t, "Propose", err, api.OK)
	for id, want := range map[int]api.Status{
		1: {ID: 1, Term: 1, Leader: 1, Role: api.RLeader, First: 5, Last: 5, Commit: 4, Applied: 4, Flushed: 4},
		2: {ID: 2, Term: 1, Leader: 1, Role: api.RFollower, First: 1, Last: 4, Commit: 4, Applied: 4},
		3: {ID: 3, Role: api.RFollower, First: 1},
	} {
		if s := g.of(id).Status(); s != want {
			t.Errorf("%+v, want %+v", s, want)
		}
	}
	for _, m := range g.beat() {
		receive(t, g.of(3), m)
	}
	if s := g.of(3).Status(); s.Installing || s.Term != 0 {
		t.Errorf("a chunk of a term above its own: %+v", s)
	}
	receive(t, g.of(3), raftMsg(api.Msg{Kind: api.MSnapshot, From: 1, To: 3, Term: 1, Index: 4, LogTerm: 1}))
	for _, m := range g.beat() {
		receive(t, g.of(3), m)
	}
	if s := g.of(3).Status(); s != (api.Status{ID: 3, Term: 1, Leader: 1, Role: api.RFollower, First: 1, Installing: true}) {
		t.Errorf("%+v", s)
	}
	for range 6 {
		tick(t, g.of(3))
	}
	if s := g.of(3).Status(); s.Role != api.RPre || s.Leader != 0 || s.Term != 1 {
		t.Errorf("%+v", s)
	}
}

// 18.10: Log, Machine and Tree tell what is there.
func TestWhatIsTold(t *testing.T) {
	r, _ := alone(t, 1<<20, config(1, 1))
	c := put(t, "a", "1")
	propose(t, r, c, noop(t))
	want := []api.LogEntry{{Index: 1, Term: 1}, {Index: 2, Term: 1, Data: c}, {Index: 3, Term: 1, Data: noop(t)}}
	if got := entriesText(r.Log()); got != entriesText(want) {
		t.Errorf("log %s", got)
	}
	if r.Machine().Stat().Applied != 3 || r.Tree().Applied() != 3 || r.Tree().Schema().Fams[0].Name != "f" {
		t.Error("the machine and the tree are others")
	}
	flush(t, r)
	if len(r.Log()) > 0 || r.Tree().Flushed() != 3 {
		t.Error("the log stays")
	}
}
