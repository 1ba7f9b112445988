package replica_test

import (
	"bytes"
	"fmt"
	"math"
	"slices"
	"strings"
	"testing"

	"strata/api"
	"strata/disk"
	"strata/journal"
	"strata/order"
	"strata/replica"
)

// target is a follower ahead of its installing the snapshot of the index 9 and the term 1.
type target struct {
	what string
	term int
	log  []api.LogEntry
	stay int // entries that stay behind it
}

func targets(t *testing.T) []target {
	others := slices.Concat(entries(t, 1, 3, 1), entries(t, 4, 8, 2))
	return []target{
		{"no log", 1, nil, 0},
		{"a log that ends ahead", 1, entries(t, 1, 5, 1), 0},
		{"a log that has it", 1, entries(t, 1, 9, 1), 0},
		{"a log that has it, and more", 2, entries(t, 1, 14, 1), 5},
		{"a log that has another one", 2, others, 0},
	}
}

// begin opens it, with a capacity, and what is to come.
func (c target) begin(t *testing.T, capacity int, files ...api.File) (*replica.Replica, *disk.Disk) {
	t.Helper()
	d := load(t, capacity, files...)
	r := open(t, d, config(2, 3))
	for i := 0; i == 0 || i < len(c.log); i += 8 {
		ahead := 0
		if i > 0 {
			ahead = c.log[i-1].Term
		}
		receive(t, r, appending(c.term, i, ahead, 2, c.log[i:min(i+8, len(c.log))]...))
	}
	return r, d
}

// installed holds a follower behind its installing of x against what is asked.
func (c target) installed(t *testing.T, what string, r *replica.Replica, d *disk.Disk, x api.Image, leader int) {
	t.Helper()
	want := api.Status{ID: 2, Term: c.term, Leader: leader, Role: api.RFollower, First: 10, Last: 9 + c.stay, Commit: 9, Applied: 9, Flushed: 9}
	if s := r.Status(); s != want {
		t.Fatalf("%s: %+v, want %+v", what, s, want)
	}
	j := journalOf(t, d)
	stay := c.log[len(c.log)-c.stay:]
	if j.base != 9 || j.baseTerm != 1 || j.hard.Term != c.term || entriesText(j.log) != entriesText(stay) || entriesText(r.Log()) != entriesText(stay) {
		t.Fatalf("%s: the journal says %+v, the log is %s", what, j, entriesText(r.Log()))
	}
	if y, err := r.Tree().Image(); err != api.OK || !bytes.Equal(snapBytes(y, 1), snapBytes(x, 1)) {
		t.Fatalf("%s: the tree has another image, %d", what, err)
	}
	if has(d, "aSNAP") {
		t.Fatalf("%s: the file is still there", what)
	}
	if n, err := r.Tree().Verify(2); n != 0 || err != api.OK {
		t.Fatalf("%s: the run %d: %d", what, n, err)
	}
}

// 18.8: a snapshot that was staged is put in the place of all, and it goes on behind it.
func TestInstall(t *testing.T) {
	x, term := image(t, 8, "value")
	b := snapBytes(x, term)
	for _, c := range targets(t) {
		for _, size := range []int{1, 100, len(b) - 1, len(b)} {
			r, d := c.begin(t, 1<<20)
			l := chunks(b, 9, term, size)
			for i, m := range l[:len(l)-1] {
				mustSend(t, c.what, receive(t, r, m), got(m, (i+1)*size))
				if s := r.Status(); s.Applied > 2 || !s.Installing {
					t.Fatalf("%s: %+v", c.what, s)
				}
			}
			last := l[len(l)-1]
			mustSend(t, c.what, receive(t, r, last), got(last, len(b)))
			c.installed(t, c.what, r, d, x, 1)
			if p, err := r.Query(api.Query{N: 1, Rows: 99}); err != api.OK || len(p.Rows) != 7 {
				t.Errorf("%s: %d rows, %d", c.what, len(p.Rows), err)
			}
			// Once more: it is there.
			mustSend(t, c.what, receive(t, r, l[0]), got(l[0], len(b)))
			c.installed(t, c.what, r, d, x, 1)
			c.installed(t, c.what+", opened anew", open(t, d, config(2, 3)), d, x, 0)
			// The log goes on.
			receive(t, r, appending(c.term, 9, 1, 11, entries(t, 10, 2, c.term)...))
			if s := r.Status(); s.Applied != 11 || s.Last != 11 && c.stay == 0 {
				t.Errorf("%s: %+v", c.what, s)
			}
		}
	}
}

// 18.8: with it come the sessions, and the clock: a command that was done ahead of it is not done again.
func TestInstallBringsTheMachine(t *testing.T) {
	g := newGroup(t, 3)
	g.lead(1, 2)
	client, _ := g.propose(1, encode(t, api.Command{Kind: api.MOpen}), 2)
	add := encode(t, api.Command{Kind: api.MMutate, Client: client, Serial: 1, Row: []byte("r"), Ops: []api.Op{{Kind: api.OAdd, Qual: []byte("n"), Delta: 5}}})
	g.propose(1, add, 2)
	g.propose(1, encode(t, api.Command{Kind: api.MTick, N: 7}), 2)
	flush(t, g.of(1))
	old := g.of(3).Machine()
	for range 3 {
		g.tick(1)
	}
	g.propose(1, add)
	g.tick(1)
	a, b := g.of(1).Machine(), g.of(3).Machine()
	if b == old || !bytes.Equal(a.State(), b.State()) || digest(t, g.of(1)) != digest(t, g.of(3)) {
		t.Error("the machine is another one")
	}
	if s := b.Stat(); s.Clock != 8 || len(s.Sessions) != 1 || s.Sessions[0].Client != client || s.Applied != 5 {
		t.Errorf("%+v", s)
	}
}

// 18.3, 18.8: proposals at indices that a snapshot passed over are forgotten; those above are answered once something stands there.
func TestInstallForgetsProposals(t *testing.T) {
	g := newGroup(t, 3)
	g.lead(2)
	g.propose(2, put(t, "a", "1"))
	if n := len(g.of(2).Answers()); n != 1 {
		t.Fatalf("%d answers", n)
	}
	// From the index 3 on nobody hears of them.
	for i := range 12 {
		index, term, _, err := g.of(2).Propose(put(t, fmt.Sprint("lost", i), "v"))
		if index != 3+i || term != 1 || err != api.OK {
			t.Fatalf("%d, %d, %d", index, term, err)
		}
	}
	x, _ := image(t, 8, "value")
	receive(t, g.of(2), appending(2, 2, 1, 2, entries(t, 3, 1, 2)...))
	for _, m := range chunks(snapBytes(x, 2), 9, 2, 10000) {
		receive(t, g.of(2), m)
	}
	if s := g.of(2).Status(); s.Applied != 9 || s.Last != 9 {
		t.Fatalf("%+v", s)
	}
	receive(t, g.of(2), appending(2, 9, 2, 11, entries(t, 10, 2, 2)...))
	want := []api.Answered{{Index: 10, Term: 2}, {Index: 11, Term: 2}}
	if a := g.of(2).Answers(); fmt.Sprint(a) != fmt.Sprint(want) {
		t.Errorf("%+v", a)
	}
}

// 18.8: a job is broken off.
func TestInstallAbortsAJob(t *testing.T) {
	c := targets(t)[1]
	r, d := c.begin(t, 1<<20)
	flush(t, r)
	if done, err := r.Compact(true, 1); done || err != api.OK || r.Tree().Pins() != 1 {
		t.Fatalf("Compact: %v, %d, %d views", done, err, r.Tree().Pins())
	}
	x, term := image(t, 8, "value")
	for _, m := range chunks(snapBytes(x, term), 9, term, 10000) {
		receive(t, r, m)
	}
	if r.Tree().Pins() != 0 {
		t.Errorf("%d views", r.Tree().Pins())
	}
	c.installed(t, c.what, r, d, x, 1)
	// And the next one is of the new runs.
	for done := false; !done; {
		var err api.Errno
		done, err = r.Compact(true, 3)
		mustErr(t, "Compact", err, api.OK)
	}
	if n := len(r.Tree().Runs()); n != 1 {
		t.Errorf("%d runs", n)
	}
}

// heads are frames that are no head of a snapshot of the index 9 and the term 1, with what stands behind them.
func heads(x api.Image) map[string][]byte {
	runs := slices.Concat(x.Runs...)
	good := snapBody(x, 1)
	framed := func(body []byte) []byte { return append(frame(body), runs...) }
	other := func(do func(x *api.Image)) []byte {
		y := x
		do(&y)
		return framed(snapBody(y, 1))
	}
	mark := slices.Clone(good)
	mark[0] = 'H'
	broad := append([]byte{good[0], good[1] | 0x80, 0}, good[2:]...)
	sum := framed(good)
	sum[9] ^= 1
	length := framed(good)
	length[3]++
	lengths := numbers([]byte{0x47}, 9, 1, x.Clock, x.Low, len(x.State))
	lengths = append(lengths, x.State...)
	wide := binaryMax(numbers([]byte{0x47}, 9, 1))
	return map[string][]byte{
		"another mark":          framed(mark),
		"no body":               framed(nil),
		"another index":         other(func(y *api.Image) { y.Index = 10 }),
		"a lower index":         other(func(y *api.Image) { y.Index = 8 }),
		"another term":          framed(snapBody(x, 2)),
		"a number too broad":    framed(broad),
		"a number above an int": framed(append(wide, good[4:]...)),
		"a wrong sum":           sum,
		"a wrong length":        length,
		"a byte more":           append(framed(good), 0),
		"a byte less":           framed(good)[:len(framed(good))-1],
		"a body with a byte":    framed(append(slices.Clone(good), 0)),
		"a body without":        framed(good[:len(good)-1]),
		"too many runs":         framed(append(append(slices.Clone(lengths), 0xff, 0xff, 3), good[len(lengths)+1:]...)),
		"one run less":          framed(numbers(slices.Clone(lengths), 1, len(x.Runs[0]))),
		"a run of a length":     framed(numbers(slices.Clone(lengths), 2, len(x.Runs[0]), math.MaxInt)),
		"runs of too much":      framed(numbers(slices.Clone(lengths), 3, math.MaxInt, math.MaxInt, 2)),
		"only a head's mark":    {0x47},
		"not a frame":           []byte("none"),
	}
}

// binaryMax puts a number of 2^63 behind bytes.
func binaryMax(b []byte) []byte {
	return append(b, 0x80, 0x80, 0x80, 0x80, 0x80, 0x80, 0x80, 0x80, 0x80, 1)
}

// 18.8: bytes that are no snapshot's of that index and term: all goes, and it begins anew.
func TestInstallRefusesWhatIsNoSnapshot(t *testing.T) {
	x, term := image(t, 8, "value")
	for _, c := range targets(t) {
		r, d := c.begin(t, 1<<20)
		files, status := d.Files(), r.Status()
		for what, b := range heads(x) {
			l := chunks(b, 9, term, api.MaxChunk)
			for i, m := range l {
				out, err := r.Receive(m, 0)
				want := api.OK
				if i+1 == len(l) {
					want = api.ErrSnap
				}
				if err != want || want != api.OK && len(out) > 0 {
					t.Fatalf("%s: %s: %s, %d, want %d", c.what, what, text(out), err, want)
				}
			}
			if !sameFiles(files, d.Files()) || r.Status() != status {
				t.Fatalf("%s: %s: %+v, %s", c.what, what, r.Status(), told(d))
			}
		}
		for _, m := range chunks(snapBytes(x, term), 9, term, 1000) {
			receive(t, r, m)
		}
		c.installed(t, c.what, r, d, x, 1)
	}
}

// 18.8: a snapshot that the tree refuses: all goes, its error is the answer, and it goes on; a job is broken off nevertheless.
func TestInstallTellsWhatTheTreeRefuses(t *testing.T) {
	good, term := image(t, 8, "value")
	spoilt := func(run, bit int) func(x *api.Image) {
		return func(x *api.Image) {
			x.Runs = slices.Clone(x.Runs)
			x.Runs[run] = slices.Clone(x.Runs[run])
			x.Runs[run][bit/8] ^= 1 << (bit % 8)
		}
	}
	for _, c := range []struct {
		what string
		make func(x *api.Image)
		err  api.Errno
	}{
		{"a clock that falls", func(x *api.Image) { x.Clock = 0 }, api.ErrClock},
		{"a low that is not below it", func(x *api.Image) { x.Low = x.Clock }, api.ErrClock},
		{"a clock above all", func(x *api.Image) { x.Clock = api.MaxTime + 1 }, api.ErrClock},
		{"too long a state", func(x *api.Image) { x.State = make([]byte, api.MaxState+1) }, api.ErrState},
		{"a spoilt run", spoilt(1, 77), api.ErrImage},
		{"runs in another order", func(x *api.Image) { x.Runs = slices.Clone(x.Runs); slices.Reverse(x.Runs) }, api.ErrImage},
		{"a run of no byte", func(x *api.Image) { x.Runs = [][]byte{x.Runs[0], x.Runs[1], nil} }, api.ErrImage},
		{"more runs than a tree has", func(x *api.Image) { x.Runs = slices.Repeat(x.Runs, 33) }, api.ErrImage},
	} {
		x := good
		c.make(&x)
		to := targets(t)[3]
		r, d := to.begin(t, 1<<23)
		flush(t, r)
		_, err := r.Compact(true, 0)
		mustErr(t, "Compact", err, api.OK)
		files, status := d.Files(), r.Status()
		l := chunks(snapBytes(x, term), 9, term, api.MaxChunk)
		for _, m := range l[:len(l)-1] {
			receive(t, r, m)
		}
		out, err := r.Receive(l[len(l)-1], 0)
		if len(out) > 0 || err != c.err {
			t.Fatalf("%s: %s, %d, want %d", c.what, text(out), err, c.err)
		}
		if !sameFiles(files, d.Files()) || r.Status() != status || r.Tree().Pins() != 0 {
			t.Fatalf("%s: %+v, %s", c.what, r.Status(), told(d))
		}
		for _, m := range chunks(snapBytes(good, term), 9, term, 1000) {
			receive(t, r, m)
		}
		to.installed(t, c.what, r, d, good, 1)
	}
}

// 18.8: it goes by what the snapshot is, not by who told it: a clock of this one that another log has brought ahead.
func TestInstallOverAnotherLog(t *testing.T) {
	x, term := image(t, 8, "value")
	ticks := []api.LogEntry{{Index: 1, Term: 1, Data: encode(t, api.Command{Kind: api.MTick, N: 50})}}
	r, d := follower(t, 1<<20, 1, ticks...)
	receive(t, r, appending(1, 1, 1, 1))
	l := chunks(snapBytes(x, term), 9, term, api.MaxChunk)
	out, err := r.Receive(l[0], 0)
	if len(out) > 0 || err != api.ErrClock || r.Status().Installing || has(d, "aSNAP") || r.Status().Applied != 1 {
		t.Fatalf("%s, %d, %+v", text(out), err, r.Status())
	}
	tick(t, r)
}

// 18.8: a state that is none of a machine: the tree has it, and the machine can't go on.
func TestInstallOfNoState(t *testing.T) {
	x, term := image(t, 8, "value")
	x.State = []byte("none")
	r, d := follower(t, 1<<20, 1)
	out, err := r.Receive(chunks(snapBytes(x, term), 9, term, api.MaxChunk)[0], 0)
	if len(out) > 0 || err != api.ErrHalted || !r.Status().Halted {
		t.Fatalf("%s, %d", text(out), err)
	}
	mustRefuse(t, "halted", r, d, api.ErrHalted)
	r.Query(api.Query{N: 1, Rows: 9})
	r.Machine().Stat()
}

// need is how many bytes must be free when the last chunk of x has been appended.
func need(d *disk.Disk, x api.Image, total int) int {
	n := total + 4096*(len(x.Runs)+1)
	for _, f := range d.Files() {
		if strings.HasPrefix(f.Name, "aJ-") {
			n += len(f.Data)
		}
	}
	return n
}

// 18.8, 18.16: the room is looked at, to the byte and to the file; without it all goes, without a word, and it goes on.
func TestInstallLooksAtTheRoom(t *testing.T) {
	x, term := image(t, 8, "value")
	b := snapBytes(x, term)
	l := chunks(b, 9, term, 100)
	for _, c := range targets(t) {
		for _, less := range []int{0, 1} {
			for _, files := range []bool{false, true} {
				what := fmt.Sprintf("%s, %d less, of files %v", c.what, less, files)
				r, d := c.begin(t, 1<<20)
				flush(t, r)
				// Another's file, whose name begins like a segment's, counts as one; other files do not.
				mustErr(t, "Create", d.Create("aJ-x"), api.OK)
				mustErr(t, "Append", d.Append("aJ-x", make([]byte, 333)), api.OK)
				mustErr(t, "Create", d.Create("bJ-1"), api.OK)
				mustErr(t, "Append", d.Append("bJ-1", make([]byte, 444)), api.OK)
				_, err := r.Compact(true, 0)
				mustErr(t, "Compact", err, api.OK)
				for _, m := range l[:len(l)-1] {
					receive(t, r, m)
				}
				last := l[len(l)-1]
				if files {
					for i := len(d.List("")); i < api.MaxFiles-len(x.Runs)-2+less; i++ {
						mustErr(t, "Create", d.Create(fmt.Sprint("z", i)), api.OK)
					}
				} else {
					mustErr(t, "Create", d.Create("zz"), api.OK)
					mustErr(t, "Append", d.Append("zz", make([]byte, d.Free()-len(last.Data)-need(d, x, len(b))+less)), api.OK)
				}
				before, pins := r.Status(), r.Tree().Pins()
				if less == 0 {
					mustSend(t, what, receive(t, r, last), got(last, len(b)))
					mustErr(t, "Delete", d.Delete("aJ-x"), api.OK)
					c.installed(t, what, r, d, x, 1)
					continue
				}
				mustStage(t, what, r, d, last, nil)
				before.Installing = false
				if s := r.Status(); s != before || r.Tree().Pins() != pins {
					t.Fatalf("%s: %+v, %d views", what, s, r.Tree().Pins())
				}
				for _, name := range d.List("z") {
					mustErr(t, "Delete", d.Delete(name), api.OK)
				}
				for _, m := range l {
					receive(t, r, m)
				}
				mustErr(t, "Delete", d.Delete("aJ-x"), api.OK)
				c.installed(t, what, r, d, x, 1)
			}
		}
	}
}

// 18.8: what it looked for is enough: with just that room power may fail anywhere, and Open finds the room to end it.
func TestInstallEndsWithTheRoomItLookedFor(t *testing.T) {
	x, term := image(t, 8, "value")
	b := snapBytes(x, term)
	l := chunks(b, 9, term, 100)
	for _, c := range targets(t) {
		for n := 1; ; n++ {
			r, d := c.begin(t, 1<<20)
			for _, m := range l[:len(l)-1] {
				receive(t, r, m)
			}
			last := l[len(l)-1]
			mustErr(t, "Create", d.Create("zz"), api.OK)
			mustErr(t, "Append", d.Append("zz", make([]byte, d.Free()-len(last.Data)-need(d, x, len(b)))), api.OK)
			mustErr(t, "Sync", d.Sync("zz"), api.OK)
			for i := len(d.List("")); i < api.MaxFiles-len(x.Runs)-2; i++ {
				mustErr(t, "Create", d.Create(fmt.Sprint("z", i)), api.OK)
			}
			d.Arm(n)
			_, err := r.Receive(last, 0)
			if err == api.OK {
				break
			}
			d.Crash(1<<20, 1<<20)
			if r, err := replica.Open(d, "a", schema, config(2, 3), 0); err != api.OK || r.Status().Applied != 9 && r.Status().Applied != 0 {
				t.Fatalf("%s, at act %d: %d, %s", c.what, n, err, told(d))
			}
		}
	}
}

// 18.8, 18.14: power fails at any act of it, with any tails: behind that lies the old state or the new one, whole; and it goes on to the new one.
func TestInstallWherePowerFails(t *testing.T) {
	x, term := image(t, 8, "value")
	b := snapBytes(x, term)
	l := chunks(b, 9, term, 1000)
	for _, c := range targets(t) {
		old, whole := 0, 0
		for n, over := 1, false; !over; n++ {
			for _, cut := range []int{0, 1, 30, 200, 1 << 20} {
				what := fmt.Sprintf("%s, at act %d, %d bytes stay", c.what, n, cut)
				r, d := c.begin(t, 1<<20)
				if c.log != nil {
					flush(t, r)
				}
				before := r.Status()
				for _, m := range l[:len(l)-1] {
					receive(t, r, m)
				}
				d.Arm(n)
				out, err := r.Receive(l[len(l)-1], 0)
				if err == api.OK {
					c.installed(t, what, r, d, x, 1)
					over = true
					break
				}
				if len(out) > 0 || err != api.ErrDown {
					t.Fatalf("%s: %s, %d", what, text(out), err)
				}
				mustRefuse(t, what, r, d, api.ErrDown)
				if s := r.Machine().Stat(); s.Applied == 9 && !bytes.Equal(r.Machine().State(), x.State) || s.Applied != 9 && s.Applied != before.Applied {
					t.Fatalf("%s: the machine is another one", what)
				}
				d.Crash(cut, cut)
				y := open(t, d, config(2, 3))
				if y.Status().Flushed == 9 {
					c.installed(t, what, y, d, x, 0)
					whole++
					continue
				}
				old++
				before.Leader, before.Commit, before.Applied = 0, before.Flushed, before.Flushed
				if s := y.Status(); s != before || has(d, "aSNAP") {
					t.Fatalf("%s: %+v, want %+v", what, s, before)
				}
				receive(t, y, appending(c.term, before.Flushed, min(before.Flushed, 1), before.Commit))
				for _, m := range l {
					receive(t, y, m)
				}
				c.installed(t, what, y, d, x, 1)
			}
		}
		if old < 5 || whole < 5 {
			t.Errorf("%s: %d times the old, %d times the new", c.what, old, whole)
		}
	}
}

// 18.8: an error of the journal halts it: here its next segment would need a number that there is none of. The file stays, by which Open goes on.
func TestInstallWithoutAJournal(t *testing.T) {
	x, term := image(t, 8, "value")
	for _, log := range [][]api.LogEntry{entries(t, 1, 5, 1), entries(t, 1, 12, 1)} {
		d := newDisk(t, 1<<20)
		j, err := journal.Open(d, "a", 1024)
		mustErr(t, "journal.Open", err, api.OK)
		mustErr(t, "Save", j.Save(api.Hard{Term: 1}, 1, log...), api.OK)
		mustErr(t, "Rename", d.Rename("aJ-1", fmt.Sprint("aJ-", api.MaxIndex)), api.OK)
		r := open(t, d, config(2, 3))
		out, err := r.Receive(chunks(snapBytes(x, term), 9, term, api.MaxChunk)[0], 0)
		if len(out) > 0 || err != api.ErrHalted {
			t.Fatalf("%s, %d", text(out), err)
		}
		mustRefuse(t, "halted", r, d, api.ErrHalted)
		if s := r.Status(); !s.Halted || s.Flushed != 9 || s.Applied != 9 || s.Commit != 9 || s.First != 1 || !s.Installing || !has(d, "aSNAP") {
			t.Errorf("%+v, %s", s, told(d))
		}
		if !bytes.Equal(r.Machine().State(), x.State) {
			t.Error("the machine is the old one")
		}
		if y, err := replica.Open(d, "a", schema, config(2, 3), 0); y != nil || err != api.ErrFull {
			t.Errorf("Open: %v, %d", y, err)
		}
		mustErr(t, "Rename", d.Rename(fmt.Sprint("aJ-", api.MaxIndex), "aJ-1"), api.OK)
		y := open(t, d, config(2, 3))
		if s := y.Status(); s.First != 10 || s.Last != max(9, len(log)) || s.Applied != 9 {
			t.Errorf("opened anew: %+v", s)
		}
	}
}

// 18.8: what the node wants behind it is done: entries that stay are saved anew, and refused that halts it.
func TestInstallGoesOn(t *testing.T) {
	x, term := image(t, 8, "value")
	c := targets(t)[3]
	r, d := c.begin(t, 1<<20)
	l := chunks(snapBytes(x, term), 9, term, 1000)
	for _, m := range l[:len(l)-1] {
		receive(t, r, m)
	}
	syncs := d.Counts().Syncs
	receive(t, r, l[len(l)-1])
	// The file, two runs, the manifest, the journal's new segment, and the record behind it.
	if n := d.Counts().Syncs - syncs; n != 6 {
		t.Errorf("%d syncs", n)
	}
	c = targets(t)[1]
	r, d = c.begin(t, 1<<20)
	for _, m := range l[:len(l)-1] {
		receive(t, r, m)
	}
	syncs = d.Counts().Syncs
	receive(t, r, l[len(l)-1])
	if n := d.Counts().Syncs - syncs; n != 5 {
		t.Errorf("%d syncs", n)
	}
}

// replyOf decodes an answer's reply.
func replyOf(t *testing.T, a api.Answered) api.Reply {
	t.Helper()
	reply, err := order.DecodeReply(a.Reply)
	mustErr(t, "DecodeReply", err, api.OK)
	return reply
}
