package replica_test

import (
	"bytes"
	"fmt"
	"math"
	"slices"
	"testing"

	"strata/api"
	"strata/disk"
	"strata/replica"
)

// refusing: each call that a replica that does nothing any more refuses, with things handed in that are wrong otherwise, too.
func refusing(r *replica.Replica) map[string]func() (bool, api.Errno) {
	none := func(l []api.Message, err api.Errno) (bool, api.Errno) { return len(l) == 0, err }
	proposed := func(command []byte) func() (bool, api.Errno) {
		return func() (bool, api.Errno) {
			index, term, l, err := r.Propose(command)
			return index == 0 && term == 0 && len(l) == 0, err
		}
	}
	compacted := func(major bool, n int) func() (bool, api.Errno) {
		return func() (bool, api.Errno) { done, err := r.Compact(major, n); return !done, err }
	}
	return map[string]func() (bool, api.Errno){
		"Tick":                   func() (bool, api.Errno) { return none(r.Tick(0)) },
		"Receive":                func() (bool, api.Errno) { return none(r.Receive(api.Message{}, 0)) },
		"Receive of a chunk":     func() (bool, api.Errno) { return none(r.Receive(api.Message{Kind: api.PChunk, From: 1, To: 2}, 0)) },
		"Propose":                proposed([]byte{1}),
		"Propose of too much":    proposed(make([]byte, api.MaxCommand+1)),
		"HandOver":               func() (bool, api.Errno) { return none(r.HandOver(1)) },
		"HandOver to no peer":    func() (bool, api.Errno) { return none(r.HandOver(-1)) },
		"Flush":                  func() (bool, api.Errno) { return true, r.Flush() },
		"Compact":                compacted(false, 1),
		"Compact, a major one":   compacted(true, math.MaxInt),
		"Compact, without steps": compacted(true, 0),
	}
}

// mustRefuse: all those calls answer this, nothing else, and write nothing.
func mustRefuse(t *testing.T, what string, r *replica.Replica, d *disk.Disk, want api.Errno) {
	t.Helper()
	files, status := d.Files(), r.Status()
	for name, call := range refusing(r) {
		if zero, err := call(); !zero || err != want {
			t.Errorf("%s: %s: zero %v, %d, want %d", what, name, zero, err, want)
		}
	}
	if !sameFiles(files, d.Files()) || r.Status() != status {
		t.Errorf("%s: something has changed", what)
	}
}

// 18.1: a journal that has no room halts it for good; what it tells it tells nevertheless.
func TestAFullJournalHaltsIt(t *testing.T) {
	r, d := alone(t, 600, config(1, 1))
	done := 0
	for {
		index, term, l, err := r.Propose(put(t, fmt.Sprint("row", done), "v"))
		if err == api.OK {
			done++
			continue
		}
		if err != api.ErrHalted || index != 0 || term != 0 || len(l) > 0 {
			t.Fatalf("Propose: %d, %d, %v, %d", index, term, l, err)
		}
		break
	}
	if done < 3 || d.Down() {
		t.Fatalf("%d were taken", done)
	}
	mustRefuse(t, "halted", r, d, api.ErrHalted)
	s := r.Status()
	if !s.Halted || s.Applied != done+1 || s.Last != done+1 || s.First != 1 || s.ID != 1 || s.Flushed != 0 {
		t.Errorf("Status: %+v", s)
	}
	if page, err := r.Query(api.Query{N: 1, Rows: 100}); err != api.OK || len(page.Rows) != done {
		t.Errorf("Query: %d rows, %d", len(page.Rows), err)
	}
	if a := r.Answers(); len(a) != done {
		t.Errorf("%d answers", len(a))
	}
	if digest(t, r) == 0 || r.Tree().Applied() != done+1 || len(r.Log()) < done+1 {
		t.Error("Machine, Tree or Log tell other things")
	}
	// Room that comes later changes nothing for this one.
	for _, f := range d.List("aJ-") {
		mustErr(t, "Delete", d.Delete(f), api.OK)
	}
	mustRefuse(t, "with room", r, d, api.ErrHalted)
	// Its disk's being down comes ahead, and is not forgotten.
	d.Arm(1)
	d.Create("x")
	mustRefuse(t, "halted and down", r, d, api.ErrDown)
	d.Crash()
	mustRefuse(t, "halted, and was down", r, d, api.ErrDown)
	if !r.Status().Halted {
		t.Error("it is halted no more")
	}
}

// 18.1: so does a want of files, where a segment begins.
func TestAJournalWithoutFilesHaltsIt(t *testing.T) {
	c := config(1, 1)
	c.Segment = 256
	r, d := alone(t, 1<<20, c)
	for i := len(d.List("")); i < api.MaxFiles; i++ {
		mustErr(t, "Create", d.Create(fmt.Sprint("z", i)), api.OK)
	}
	for i := 0; ; i++ {
		_, _, _, err := r.Propose(put(t, "row", "value"))
		if err == api.OK && i < 20 {
			continue
		}
		mustErr(t, "Propose", err, api.ErrHalted)
		break
	}
	mustRefuse(t, "without files", r, d, api.ErrHalted)
}

// 18.1: a machine that can't apply what is committed halts it.
func TestARefusedApplyHaltsIt(t *testing.T) {
	r, d := alone(t, 1<<20, config(1, 1))
	propose(t, r, put(t, "a", "1"))
	var held []func()
	for range api.MaxPins {
		v, err := r.Tree().Pin()
		mustErr(t, "Pin", err, api.OK)
		held = append(held, v.Release)
	}
	// What reads nothing is applied all the same.
	propose(t, r, noop(t))
	r.Answers()
	index, term, l, err := r.Propose(ifThere(t, "a"))
	if index != 0 || term != 0 || len(l) > 0 || err != api.ErrHalted {
		t.Fatalf("Propose: %d, %d, %v, %d", index, term, l, err)
	}
	for _, release := range held {
		release()
	}
	mustRefuse(t, "halted", r, d, api.ErrHalted)
	s := r.Status()
	if !s.Halted || s.Applied != 3 || s.Last != 4 || s.Commit != 4 || len(r.Answers()) > 0 {
		t.Errorf("Status: %+v", s)
	}
	// It was saved: behind Open it is applied.
	x := open(t, d, config(1, 1))
	lead(t, x)
	if s := x.Status(); s.Applied != 5 || s.Halted {
		t.Errorf("opened anew: %+v", s)
	}
}

// 18.1: of several entries that are committed at once those ahead of the one that is refused are applied, and answered.
func TestAHaltAmongEntries(t *testing.T) {
	g := newGroup(t, 3)
	g.lead(1)
	r := g.of(1)
	// Both are under way, and committed by one word.
	a := propose(t, r, noop(t))
	b := propose(t, r, ifThere(t, "a"))
	for range api.MaxPins {
		_, err := r.Tree().Pin()
		mustErr(t, "Pin", err, api.OK)
	}
	for _, m := range append(a, b...) {
		if m.To == 2 {
			receive(t, g.of(2), m)
		}
	}
	l, err := r.Receive(raftMsg(api.Msg{Kind: api.MAppendReply, From: 2, To: 1, Term: 1, Index: 3}), 0)
	if len(l) > 0 || err != api.ErrHalted {
		t.Fatalf("%s, %d", text(l), err)
	}
	if s := r.Status(); s.Applied != 2 || !s.Halted {
		t.Errorf("%+v", s)
	}
	if a := r.Answers(); len(a) != 1 || a[0].Index != 2 {
		t.Errorf("answers %+v", a)
	}
}

// 18.1: while its disk is down, and behind that, it does nothing.
func TestADownDisk(t *testing.T) {
	r, d := alone(t, 1<<20, config(1, 1))
	propose(t, r, put(t, "a", "1"))
	d.Arm(1)
	// Somebody else meets it.
	mustErr(t, "Create", d.Create("x"), api.ErrDown)
	mustRefuse(t, "down", r, d, api.ErrDown)
	if r.Status().Halted {
		t.Error("it is halted")
	}
	if _, err := r.Query(api.Query{N: 1, Rows: 9}); err != api.ErrDown {
		t.Errorf("Query: %d", err)
	}
	if a := r.Answers(); len(a) != 1 || len(r.Log()) != 2 || r.Status().Applied != 2 {
		t.Errorf("answers %v", a)
	}
	d.Crash()
	mustRefuse(t, "behind a crash", r, d, api.ErrDown)

	// A question meets it as well.
	d = newDisk(t, 1<<20)
	r = open(t, d, config(1, 1))
	d.Arm(1)
	d.Create("x")
	_, err := r.Query(api.Query{N: 1, Rows: 9})
	mustErr(t, "Query", err, api.ErrDown)
	d.Crash()
	mustRefuse(t, "behind a question", r, d, api.ErrDown)
}

// long is entries of so many bytes each, from an index on.
func long(from, term int, sizes ...int) []api.LogEntry {
	var l []api.LogEntry
	for i, n := range sizes {
		l = append(l, api.LogEntry{Index: from + i, Term: term, Data: bytes.Repeat([]byte{byte(i)}, n)})
	}
	return l
}

// filling is so many sizes of a command's most, and a last one with which a record's body has just these bytes.
func filling(t *testing.T, h api.Hard, from, term, n, body int) []int {
	sizes := append(slices.Repeat([]int{api.MaxCommand}, n), api.MaxCommand-1)
	sizes[n] -= recordSize(h, long(from, term, sizes...)) - body
	if recordSize(h, long(from, term, sizes...)) != body {
		t.Fatal("no entry fills it")
	}
	return sizes
}

// 18.3: entries are saved in as few records as can be, each as full as it may be, the lower indices first.
func TestSavesAreFew(t *testing.T) {
	h := api.Hard{Term: 1}
	full := filling(t, h, 1, 1, 10, api.MaxFrame)
	over := slices.Clone(full)
	over[10]++
	for _, c := range []struct {
		what    string
		sizes   []int
		records []int // how many entries each has
	}{
		{"none", nil, nil},
		{"one", []int{5}, []int{1}},
		{"one of no byte", []int{0}, []int{1}},
		{"the longest", []int{api.MaxCommand}, []int{1}},
		{"just a record's most", full, []int{11}},
		{"a byte more", over, []int{10, 1}},
		{"a record's most, and one", append(slices.Clone(full), 0), []int{11, 1}},
		{"a byte more, and one", append(slices.Clone(over), 7, 8), []int{10, 3}},
		{"all that a message may have", slices.Repeat([]int{api.MaxCommand}, 16), []int{10, 6}},
	} {
		d := newDisk(t, 1<<23)
		r := open(t, d, config(2, 3))
		receive(t, r, raftMsg(api.Msg{Kind: api.MAppend, From: 1, To: 2, Term: 1}))
		acts := d.Counts()
		l := long(1, 1, c.sizes...)
		out := receive(t, r, appending(1, 0, 0, 0, l...))
		want := raftMsg(api.Msg{Kind: api.MAppendReply, From: 2, To: 1, Term: 1, Index: len(l)})
		if text(out) != text([]api.Message{want}) {
			t.Errorf("%s: it answers %s", c.what, text(out))
		}
		if n := d.Counts().Syncs - acts.Syncs; n != len(c.records) {
			t.Errorf("%s: %d syncs, want %d", c.what, n, len(c.records))
		}
		if got := recordsOn(t, d); !slices.Equal(got, c.records) {
			t.Errorf("%s: records of %v entries, want %v", c.what, got, c.records)
		}
		if got := journalOf(t, d); entriesText(got.log) != entriesText(l) || got.hard != h {
			t.Errorf("%s: another log was saved", c.what)
		}
	}
}

// recordsOn tells of each record with entries, in their order, how many it has.
func recordsOn(t *testing.T, d *disk.Disk) []int {
	t.Helper()
	var counts []int
	for i := 1; ; i++ {
		name := fmt.Sprint("aJ-", i)
		if !has(d, name) {
			return counts
		}
		size, _ := d.Size(name)
		b, err := d.Read(name, 0, size)
		mustErr(t, "Read", err, api.OK)
		for len(b) > 0 {
			n := int(b[0])<<24 | int(b[1])<<16 | int(b[2])<<8 | int(b[3])
			body := b[8 : 8+n]
			b = b[12+n:]
			// Terms, votes, indices and numbers here are of one byte.
			if body[0] == 'S' && body[4] > 0 {
				counts = append(counts, int(body[4]))
			}
		}
	}
}

// 18.3: what has no room from the second record on halts it, and what power cuts off there is down; no message goes out, and the first record stays.
func TestSavesThatBreakOff(t *testing.T) {
	sizes := slices.Repeat([]int{api.MaxCommand}, 16)
	l := long(1, 1, sizes...)
	for _, c := range []struct {
		what string
		room int
		arm  int
		err  api.Errno
		stay int
	}{
		{"no room at all", 1000, 0, api.ErrHalted, 0},
		{"room for the first", 1 << 20, 0, api.ErrHalted, 10},
		{"power fails at the first", 1 << 23, 1, api.ErrDown, 0},
		{"power fails at the first's sync", 1 << 23, 2, api.ErrDown, 0},
		{"power fails at the second", 1 << 23, 3, api.ErrDown, 10},
		{"power fails at the second's append", 1 << 23, 4, api.ErrDown, 10},
		{"power fails at the second's sync", 1 << 23, 5, api.ErrDown, 10},
		{"room for all", 1 << 23, 0, api.OK, 16},
	} {
		d := newDisk(t, c.room)
		r := open(t, d, config(2, 3))
		receive(t, r, raftMsg(api.Msg{Kind: api.MAppend, From: 1, To: 2, Term: 1}))
		d.Arm(c.arm)
		out, err := r.Receive(appending(1, 0, 0, 16, l...), 0)
		if err != c.err || (len(out) > 0) != (err == api.OK) {
			t.Errorf("%s: %d messages, %d, want %d", c.what, len(out), err, c.err)
		}
		if err != api.OK {
			mustRefuse(t, c.what, r, d, c.err)
			if s := r.Status(); s.Applied > 0 || s.Halted != (err == api.ErrHalted) || s.Last != c.stay {
				t.Errorf("%s: %+v", c.what, s)
			}
		}
		d.Crash()
		x := open(t, copied(t, d, 1<<23), config(2, 3))
		if s := x.Status(); s.Last != c.stay || s.Term != 1 || entriesText(x.Log()) != entriesText(l[:c.stay]) {
			t.Errorf("%s: opened anew: %+v", c.what, s)
		}
	}
}

// 18.3: a term or a vote alone is saved, too, ahead of the message that tells it; and what changes neither writes nothing.
func TestHardIsSavedFirst(t *testing.T) {
	d := newDisk(t, 1<<20)
	r := open(t, d, config(2, 3))
	vote := func(from, term int) api.Message {
		return raftMsg(api.Msg{Kind: api.MVote, From: from, To: 2, Term: term})
	}
	for _, c := range []struct {
		m      api.Message
		hard   api.Hard
		reject bool
		syncs  int
	}{
		{vote(1, 4), api.Hard{Term: 4, Vote: 1}, false, 1},
		{vote(1, 4), api.Hard{Term: 4, Vote: 1}, false, 0},
		{vote(3, 4), api.Hard{Term: 4, Vote: 1}, true, 0},
		{vote(3, 5), api.Hard{Term: 5, Vote: 3}, false, 1},
		{vote(1, 3), api.Hard{Term: 5, Vote: 3}, true, 0},
	} {
		syncs := d.Counts().Syncs
		l := receive(t, r, c.m)
		want := raftMsg(api.Msg{Kind: api.MVoteReply, From: 2, To: c.m.From, Term: c.hard.Term, Reject: c.reject})
		if text(l) != text([]api.Message{want}) {
			t.Errorf("%s: %s", messageText(c.m), text(l))
		}
		if j := journalOf(t, d); j.hard != c.hard || d.Counts().Syncs-syncs != c.syncs {
			t.Errorf("%s: %+v, %d syncs", messageText(c.m), j.hard, d.Counts().Syncs-syncs)
		}
	}
	// At the power's failing nothing is said.
	d.Arm(2)
	l, err := r.Receive(vote(1, 9), 0)
	if len(l) > 0 || err != api.ErrDown {
		t.Errorf("%s, %d", text(l), err)
	}
	d.Crash()
	if x := open(t, d, config(2, 3)); x.Status().Term != 5 {
		t.Errorf("%+v", x.Status())
	}
}

// 18.3: raft's messages first, in their order, as PRaft; then a chunk for each that needs a snapshot, rising.
func TestMessagesGoOutInOrder(t *testing.T) {
	g := newGroup(t, 5)
	g.lead(1, 2, 3)
	for i := range 4 {
		g.propose(1, put(t, fmt.Sprint("row", i), "v"), 2, 3)
	}
	flush(t, g.of(1))
	l := tick(t, g.of(1))
	x, err := g.of(1).Tree().Image()
	mustErr(t, "Image", err, api.OK)
	b := snapBytes(x, 1)
	want := []api.Message{
		raftMsg(api.Msg{Kind: api.MAppend, From: 1, To: 2, Term: 1, Index: 5, LogTerm: 1, Commit: 5}),
		raftMsg(api.Msg{Kind: api.MAppend, From: 1, To: 3, Term: 1, Index: 5, LogTerm: 1, Commit: 5}),
		raftMsg(api.Msg{Kind: api.MSnapshot, From: 1, To: 4, Term: 1, Index: 5, LogTerm: 1, Commit: 5}),
		raftMsg(api.Msg{Kind: api.MSnapshot, From: 1, To: 5, Term: 1, Index: 5, LogTerm: 1, Commit: 5}),
		{Kind: api.PChunk, From: 1, To: 4, Index: 5, Term: 1, Total: len(b), Data: b},
		{Kind: api.PChunk, From: 1, To: 5, Index: 5, Term: 1, Total: len(b), Data: b},
	}
	if text(l) != text(want) {
		t.Errorf("got\n%swant\n%s", text(l), text(want))
	}
}

// 18.3: entries are applied one by one, in order, as they are committed, and not earlier; bytes that are no command, too.
func TestWhatIsCommittedIsApplied(t *testing.T) {
	r, _ := follower(t, 1<<20, 1, entries(t, 1, 4, 1)...)
	rows := func() int {
		page, err := r.Query(api.Query{N: 1, Rows: 99})
		mustErr(t, "Query", err, api.OK)
		return len(page.Rows)
	}
	for _, c := range []struct{ commit, applied, rows int }{{0, 0, 0}, {2, 2, 2}, {1, 2, 2}, {3, 3, 3}, {9, 4, 4}} {
		receive(t, r, appending(1, 4, 1, c.commit))
		if s := r.Status(); s.Applied != c.applied || s.Commit != c.applied || rows() != c.rows {
			t.Errorf("committed %d: %+v, %d rows", c.commit, s, rows())
		}
	}
	receive(t, r, appending(1, 4, 1, 6, api.LogEntry{Index: 5, Term: 1}, api.LogEntry{Index: 6, Term: 1, Data: []byte("none")}))
	if s := r.Status(); s.Applied != 6 || rows() != 4 || len(r.Answers()) > 0 {
		t.Errorf("%+v", s)
	}
}

// 18.4: a tick behind which the tree is full flushes it, and cuts the log off.
func TestTickFlushesAFullTree(t *testing.T) {
	c := config(1, 1)
	c.Tree.Mem = 9000
	r, _ := alone(t, 1<<20, c)
	propose(t, r, puts(t, "a", 2, 'x'))
	tick(t, r)
	if s := r.Status(); s.Flushed != 0 || s.First != 1 {
		t.Errorf("not full: %+v", s)
	}
	propose(t, r, puts(t, "b", 2, 'x'))
	if s := r.Status(); s.Flushed != 0 {
		t.Errorf("ahead of the tick: %+v", s)
	}
	tick(t, r)
	if s := r.Status(); s.Flushed != 3 || s.First != 4 || len(r.Log()) > 0 {
		t.Errorf("behind it: %+v", s)
	}
	if n, _ := r.Tree().Mem(); n > 0 || len(r.Tree().Runs()) != 1 {
		t.Error("the memtable is not empty")
	}
}

// 18.4: the tick itself comes first: a new leader's entry is flushed with all else.
func TestTickGoesOnFirst(t *testing.T) {
	c := config(1, 1)
	c.Tree.Mem = 1000
	r, d := alone(t, 1<<20, c)
	propose(t, r, puts(t, "a", 2, 'x'))
	x := open(t, d, c)
	lead(t, x)
	if s := x.Status(); s.Applied != 3 || s.Flushed != 3 || s.Last != 3 || s.First != 4 {
		t.Errorf("%+v", s)
	}
}

// 18.4, 18.16: a flush that finds no room, or no file, is let go; the tick's messages go out. Its being cut off is told.
func TestTickLetsAFlushGo(t *testing.T) {
	for _, c := range []struct {
		what string
		make func(d *disk.Disk)
		err  api.Errno
	}{
		{"room", func(d *disk.Disk) { d.Append("zz", make([]byte, d.Free()-2000)) }, api.ErrFull},
		{"files", func(d *disk.Disk) {
			for i := len(d.List("")); i < api.MaxFiles; i++ {
				d.Create(fmt.Sprint("z", i))
			}
		}, api.ErrFiles},
	} {
		g := newGroup(t, 3)
		g.config = func(c *api.ReplicaConfig) { c.Tree.Mem = 5000 }
		g.begin()
		g.lead(1)
		d, r := g.disks[0], g.of(1)
		g.propose(1, puts(t, "a", 4, 'x'), 2)
		mustErr(t, "Create", d.Create("zz"), api.OK)
		c.make(d)
		before, files := r.Status(), d.Files()
		l := tick(t, r)
		if len(l) != 2 || l[0].Raft.Kind != api.MAppend || r.Status() != before || !sameFiles(files, d.Files()) {
			t.Errorf("%s: %s, %+v", c.what, text(l), r.Status())
		}
		mustErr(t, c.what, r.Flush(), c.err)
		for _, name := range d.List("z") {
			mustErr(t, "Delete", d.Delete(name), api.OK)
		}
		tick(t, r)
		if s := r.Status(); s.Flushed != 2 || s.First != 3 || s.Halted {
			t.Errorf("%s: with room: %+v", c.what, s)
		}
		// And power that fails in it.
		g.propose(1, puts(t, "b", 4, 'x'), 2)
		d.Arm(2)
		l, err := r.Tick(0)
		if len(l) > 0 || err != api.ErrDown {
			t.Errorf("%s: %s, %d", c.what, text(l), err)
		}
	}
}

// 18.4: other errors of the flush are the tick's: a manifest that is none any more.
func TestTickTellsWhatIsWrongWithAFlush(t *testing.T) {
	c := config(1, 1)
	c.Tree.Mem = 1
	r, d := alone(t, 1<<20, c)
	propose(t, r, put(t, "a", "1"))
	tick(t, r)
	propose(t, r, put(t, "b", "2"))
	mustErr(t, "Flip", d.Flip("aMANIFEST", 100), api.OK)
	l, err := r.Tick(0)
	if len(l) > 0 || err != api.ErrManifest {
		t.Errorf("%s, %d", text(l), err)
	}
}

// 18.4: a memtable that is too much for one run is let go by every tick.
func TestTickLetsALongFlushGo(t *testing.T) {
	r, _ := follower(t, api.MaxDisk, 1)
	var l []api.LogEntry
	index := 0
	for index < 260 {
		l = l[:0]
		for range api.MaxBatch {
			index++
			l = append(l, api.LogEntry{Index: index, Term: 1, Data: puts(t, fmt.Sprint("row", index), 16, byte(index))})
		}
		receive(t, r, appending(1, index-16, min(index-16, 1), index, l...))
	}
	mustErr(t, "Flush", r.Flush(), api.ErrLong)
	tick(t, r)
	if s := r.Status(); s.Applied != index || s.Flushed != 0 || s.First != 1 || s.Halted {
		t.Errorf("%+v", s)
	}
}
