package replica_test

import (
	"bytes"
	"fmt"
	"slices"
	"testing"

	"strata/api"
	"strata/disk"
	"strata/journal"
	"strata/replica"
	"strata/tree"
)

// opening is what Open is given.
type opening struct {
	nilDisk, down bool
	files         []api.File
	prefix        string
	schema        api.Schema
	config        api.ReplicaConfig
}

func (o opening) disk(t *testing.T) *disk.Disk {
	t.Helper()
	if o.nilDisk {
		return nil
	}
	d := load(t, 1<<20, o.files...)
	if o.down {
		d.Arm(1)
		d.Create("zz")
	}
	return d
}

func (o *opening) change(t *testing.T, do func(d *disk.Disk)) {
	t.Helper()
	d := load(t, 1<<20, o.files...)
	do(d)
	o.files = d.Files()
}

// withBytes puts a file in the place of one.
func (o *opening) withBytes(name string, b []byte) {
	o.files = slices.DeleteFunc(slices.Clone(o.files), func(f api.File) bool { return f.Name == name })
	o.files = append(o.files, api.File{Name: name, Data: b, Synced: len(b)})
}

// grown is the disk of a node alone of five peers' ids, that has flushed something and has more in its log.
func grown(t *testing.T) opening {
	t.Helper()
	r, d := alone(t, 1<<20, config(1, 1))
	propose(t, r, put(t, "a", "1"), put(t, "b", "2"))
	flush(t, r)
	propose(t, r, put(t, "c", "3"), put(t, "d", "4"))
	return opening{files: d.Files(), prefix: "a", schema: schema, config: config(1, 1)}
}

// fault makes Open answer an error.
type fault struct {
	what string
	err  api.Errno
	make func(t *testing.T, o *opening)
}

// faults in the order in which they are told.
func faults() []fault {
	return []fault{
		{"no disk", api.ErrArg, func(t *testing.T, o *opening) { o.nilDisk = true }},
		{"a disk that is down", api.ErrDown, func(t *testing.T, o *opening) { o.down = true }},
		{"a policy", api.ErrTiers, func(t *testing.T, o *opening) { o.config.Policy.Width = 1 }},
		{"a configuration of raft", api.ErrRaft, func(t *testing.T, o *opening) { o.config.Raft.ID = 7 }},
		{"a prefix", api.ErrName, func(t *testing.T, o *opening) { o.prefix = "a b" }},
		{"a schema", api.ErrSchema, func(t *testing.T, o *opening) { o.schema = api.Schema{} }},
		{"options of a tree", api.ErrOptions, func(t *testing.T, o *opening) { o.config.Tree.Stall = 0 }},
		{"a manifest", api.ErrManifest, func(t *testing.T, o *opening) { o.withBytes("aMANIFEST", []byte("none")) }},
		{"a run", api.ErrUnsound, func(t *testing.T, o *opening) { o.withBytes("aRUN-1", []byte("none")) }},
		{"a state", api.ErrState, func(t *testing.T, o *opening) {
			o.change(t, func(d *disk.Disk) {
				x, err := tree.Open(d, "a", schema, config(1, 1).Tree)
				mustErr(t, "tree.Open", err, api.OK)
				mustErr(t, "Flush", x.Flush([]byte("none")), api.OK)
			})
		}},
		{"a limit of a segment", api.ErrSegment, func(t *testing.T, o *opening) { o.config.Segment = 255 }},
		{"a journal", api.ErrJournal, func(t *testing.T, o *opening) {
			o.change(t, func(d *disk.Disk) { mustErr(t, "Flip", d.Flip(d.List("aJ-")[0], 70), api.OK) })
		}},
		{"a journal that begins behind", api.ErrMix, func(t *testing.T, o *opening) { o.reset(t, api.Hard{Term: 1, Vote: 1}, 99) }},
		{"a vote for no peer", api.ErrRaft, func(t *testing.T, o *opening) { o.reset(t, api.Hard{Term: 2, Vote: 5}, 0) }},
	}
}

// reset lets the journal begin behind an index (0: where the tree was flushed), or at the beginning, if it can.
func (o *opening) reset(t *testing.T, h api.Hard, index int) {
	t.Helper()
	o.change(t, func(d *disk.Disk) {
		j, err := journal.Open(d, "a", 1024)
		mustErr(t, "journal.Open", err, api.OK)
		h.Term = max(h.Term, j.Hard().Term)
		if h.Term == j.Hard().Term {
			h.Vote = j.Hard().Vote
		}
		if index == 0 {
			index, _ = j.Base()
		}
		mustErr(t, "Reset", j.Reset(h, index, 1), api.OK)
	})
}

// 18.2: each thing that Open refuses, alone, and with all that come behind it in the order.
func TestOpenRefusesInOrder(t *testing.T) {
	all := faults()
	for i, f := range all {
		for _, more := range []bool{false, true} {
			o := grown(t)
			// The last ones first: so what is made later does not undo it.
			for k := len(all) - 1; k >= i; k-- {
				if k == i || more {
					all[k].make(t, &o)
				}
			}
			d := o.disk(t)
			var files []api.File
			if d != nil {
				files = d.Files()
			}
			r, err := replica.Open(d, o.prefix, o.schema, o.config, 0)
			if r != nil || err != f.err {
				t.Errorf("%s (with more: %v): %v, %d, want %d", f.what, more, r, err, f.err)
			}
			if d != nil && !sameFiles(files, d.Files()) {
				t.Errorf("%s (with more: %v): Open has written: %s", f.what, more, told(d))
			}
		}
	}
}

// 18.2: a tree that was flushed behind the last entry of the journal, or ahead of its first one, does not fit with it.
func TestOpenRefusesAMix(t *testing.T) {
	for _, c := range []struct {
		what        string
		flushed     int
		base, count int
		err         api.Errno
	}{
		{"ahead of the base", 2, 3, 2, api.ErrMix},
		{"at the base", 3, 3, 2, api.OK},
		{"at the base, and no entry", 3, 3, 0, api.OK},
		{"within", 4, 3, 2, api.OK},
		{"at the last", 5, 3, 2, api.OK},
		{"behind the last", 6, 3, 2, api.ErrMix},
		{"behind nothing", 1, 0, 0, api.ErrMix},
		{"nothing behind nothing", 0, 0, 0, api.OK},
	} {
		d := newDisk(t, 1<<20)
		x, err := tree.Open(d, "a", schema, config(1, 1).Tree)
		mustErr(t, "tree.Open", err, api.OK)
		for i := range c.flushed {
			mustErr(t, "Apply", x.Apply(i+1, 1, 0), api.OK)
		}
		if c.flushed > 0 {
			mustErr(t, "Flush", x.Flush(nil), api.OK)
		}
		j, err := journal.Open(d, "a", 1024)
		mustErr(t, "journal.Open", err, api.OK)
		if c.base > 0 {
			mustErr(t, "Reset", j.Reset(api.Hard{Term: 4, Vote: 1}, c.base, 2), api.OK)
			mustErr(t, "Save", j.Save(api.Hard{Term: 4, Vote: 1}, c.base+1, entries(t, c.base+1, c.count, 3)...), api.OK)
		}
		r, err := replica.Open(d, "a", schema, config(1, 1), 0)
		if err != c.err || (r == nil) != (err != api.OK) {
			t.Errorf("%s: %v, %d, want %d", c.what, r, err, c.err)
			continue
		}
		if r == nil {
			continue
		}
		want := api.Status{ID: 1, Role: api.RFollower, First: c.base + 1, Last: c.base + c.count, Commit: c.flushed, Applied: c.flushed, Flushed: c.flushed}
		if c.base > 0 {
			want.Term = 4
		}
		if s := r.Status(); s != want {
			t.Errorf("%s: %+v, want %+v", c.what, s, want)
		}
		if got, want := entriesText(r.Log()), entriesText(entries(t, c.base+1, c.count, 3)); got != want {
			t.Errorf("%s: log %s, want %s", c.what, got, want)
		}
		if len(r.Answers()) > 0 || r.Tree().Pins() > 0 {
			t.Errorf("%s: it has answers or views", c.what)
		}
	}
}

// 18.2: the first timeout is the draw's.
func TestOpenDrawsATimeout(t *testing.T) {
	for draw := -9; draw < 9; draw++ {
		d := newDisk(t, 1<<20)
		r, err := replica.Open(d, "a", schema, config(1, 1), draw)
		mustErr(t, "Open", err, api.OK)
		ticks := 0
		for ; r.Status().Role != api.RLeader && ticks < 20; ticks++ {
			tick(t, r)
		}
		if want := 3 + (draw%4+4)%4; ticks != want {
			t.Errorf("draw %d: it leads behind %d ticks, want %d", draw, ticks, want)
		}
	}
}

// rest is a disk as a power failure within an installing may leave it: the tree has the image, the journal has not heard of it.
type rest struct {
	what  string
	hard  api.Hard
	base  int
	log   []api.LogEntry
	snap  func(x api.Image) []byte // nil: there is none
	err   api.Errno
	begin int // what the journal begins behind, once it is open
	stay  int // entries behind that
}

func rests(t *testing.T) []rest {
	whole := func(x api.Image) []byte { return snapBytes(x, 3) }
	all := entries(t, 1, 12, 3)
	others := slices.Concat(entries(t, 1, 5, 3), entries(t, 6, 7, 4))
	hard := api.Hard{Term: 4, Vote: 3}
	return []rest{
		{"an entry of that term, and more", hard, 0, all, whole, api.OK, 9, 3},
		{"an entry of that term, the last one", hard, 0, all[:9], whole, api.OK, 9, 0},
		{"a journal that ends ahead", hard, 0, all[:8], whole, api.OK, 9, 0},
		{"a journal without an entry", hard, 0, nil, whole, api.OK, 9, 0},
		{"an entry of another term", hard, 0, others, whole, api.OK, 9, 0},
		{"a journal that begins just ahead", hard, 8, all[8:], whole, api.OK, 9, 3},
		{"a journal that begins behind it", hard, 9, all[9:], whole, api.OK, 9, 3},
		{"a journal that begins behind it, and its end is cut off", hard, 9, all[9:], func(x api.Image) []byte { return whole(x)[:300] }, api.OK, 9, 3},
		{"a journal that begins behind it, with another term", hard, 9, all[9:], func(x api.Image) []byte { return snapBytes(x, 2) }, api.OK, 9, 3},
		{"a journal that begins behind what is flushed", hard, 10, all[10:], whole, api.ErrMix, 0, 0},
		{"one that is cut off", hard, 0, all[:8], func(x api.Image) []byte { b := whole(x); return b[:len(b)-1] }, api.ErrMix, 0, 0},
		{"one with a byte more", hard, 0, all[:8], func(x api.Image) []byte { return append(whole(x), 0) }, api.ErrMix, 0, 0},
		{"one with a bit of its head turned", hard, 0, all[:8], func(x api.Image) []byte { b := whole(x); b[12] ^= 4; return b }, api.ErrMix, 0, 0},
		{"one of no byte", hard, 0, all[:8], func(x api.Image) []byte { return nil }, api.ErrMix, 0, 0},
		{"one of a lower index", hard, 0, all[:8], func(x api.Image) []byte { x.Index--; return whole(x) }, api.ErrMix, 0, 0},
		{"one of a higher index", hard, 0, all[:8], func(x api.Image) []byte { x.Index++; return whole(x) }, api.ErrMix, 0, 0},
		{"one that is of no use, where all fits", hard, 0, all, func(x api.Image) []byte { return []byte("none") }, api.OK, 0, 12},
		{"one of a lower index, where all fits", hard, 0, all, func(x api.Image) []byte { x.Index--; return whole(x) }, api.OK, 0, 12},
		{"none, where nothing fits", hard, 0, all[:8], nil, api.ErrMix, 0, 0},
		{"one of a term that the journal has not heard of", api.Hard{Term: 3}, 0, all[:8], func(x api.Image) []byte { return snapBytes(x, 4) }, api.ErrTrim, 0, 0},
	}
}

// disk lays it: an image of the index 9.
func (c rest) disk(t *testing.T, capacity int) *disk.Disk {
	t.Helper()
	d := newDisk(t, api.MaxDisk)
	x, _ := image(t, 8, "value")
	if x.Index != 9 {
		t.Fatalf("the image is of %d", x.Index)
	}
	tr, err := tree.Open(d, "a", schema, config(2, 3).Tree)
	mustErr(t, "tree.Open", err, api.OK)
	mustErr(t, "Install", tr.Install(x), api.OK)
	j, err := journal.Open(d, "a", 1024)
	mustErr(t, "journal.Open", err, api.OK)
	baseTerm := 0
	if c.base > 0 {
		baseTerm = 3
	}
	mustErr(t, "Reset", j.Reset(c.hard, c.base, baseTerm), api.OK)
	mustErr(t, "Save", j.Save(c.hard, c.base+1, c.log...), api.OK)
	if c.snap != nil {
		mustErr(t, "Create", d.Create("aSNAP"), api.OK)
		mustErr(t, "Append", d.Append("aSNAP", c.snap(x)), api.OK)
		mustErr(t, "Sync", d.Sync("aSNAP"), api.OK)
	}
	return copied(t, d, capacity)
}

// check holds a replica that was opened there against what is asked.
func (c rest) check(t *testing.T, what string, r *replica.Replica, d *disk.Disk) {
	t.Helper()
	last := c.begin + c.stay
	want := api.Status{ID: 2, Term: c.hard.Term, Role: api.RFollower, First: c.begin + 1, Last: last, Commit: 9, Applied: 9, Flushed: 9}
	if s := r.Status(); s != want {
		t.Fatalf("%s: %+v, want %+v", what, s, want)
	}
	j := journalOf(t, d)
	if j.hard != c.hard || j.base != c.begin || j.last() != last || c.begin > 0 && j.baseTerm != 3 {
		t.Fatalf("%s: the journal says %+v", what, j)
	}
	stay := c.log[len(c.log)-c.stay:]
	if got := entriesText(r.Log()); got != entriesText(stay) || entriesText(j.log) != got {
		t.Fatalf("%s: log %s", what, got)
	}
	if has(d, "aSNAP") {
		t.Fatalf("%s: the file is still there", what)
	}
}

// 18.2: what lies in SNAP: the journal is brought behind it where the tree is, and it is deleted in any case.
func TestOpenEndsAnInstalling(t *testing.T) {
	for _, c := range rests(t) {
		d := c.disk(t, 1<<20)
		r, err := replica.Open(d, "a", schema, config(2, 3), 0)
		if err != c.err || (r == nil) != (err != api.OK) {
			t.Errorf("%s: %v, %d, want %d", c.what, r, err, c.err)
			continue
		}
		// What the journal refused stays, for whoever mends it.
		if has(d, "aSNAP") != (err == api.ErrTrim) {
			t.Errorf("%s: files %s", c.what, told(d))
		}
		if err == api.OK {
			c.check(t, c.what, r, d)
			c.check(t, c.what+", opened again", open(t, d, config(2, 3)), d)
		}
	}
}

// 18.2: power fails at any act of it, and it opens behind that as if it had not.
func TestOpenEndsAnInstallingWherePowerFails(t *testing.T) {
	for _, c := range rests(t) {
		if c.err != api.OK {
			continue
		}
		acts := 0
		for n := 1; ; n++ {
			for _, cut := range []int{0, 5, 40, 1 << 20} {
				what := fmt.Sprintf("%s, at act %d, %d bytes stay", c.what, n, cut)
				d := c.disk(t, 1<<20)
				d.Arm(n)
				r, err := replica.Open(d, "a", schema, config(2, 3), 0)
				if err == api.OK {
					c.check(t, what, r, d)
					acts = n - 1
					continue
				}
				if r != nil || err != api.ErrDown {
					t.Fatalf("%s: %v, %d", what, r, err)
				}
				d.Crash(cut, cut)
				c.check(t, what, open(t, d, config(2, 3)), d)
			}
			if acts > 0 {
				break
			}
		}
	}
}

// 18.2: where the journal finds no room for it, Open says so, and the file stays; with room it opens.
func TestOpenEndsAnInstallingWithoutRoom(t *testing.T) {
	for _, c := range rests(t)[:6] {
		used := 0
		for _, f := range c.disk(t, 1<<20).Files() {
			used += len(f.Data)
		}
		refused := 0
		for room := 0; ; room += 7 {
			d := c.disk(t, used+room)
			r, err := replica.Open(d, "a", schema, config(2, 3), 0)
			if err == api.OK {
				c.check(t, c.what, r, d)
				break
			}
			if r != nil || err != api.ErrFull || !has(d, "aSNAP") {
				t.Fatalf("%s, with %d bytes of room: %v, %d, %s", c.what, room, r, err, told(d))
			}
			refused++
			d = copied(t, d, 1<<20)
			c.check(t, c.what, open(t, d, config(2, 3)), d)
		}
		if refused == 0 {
			t.Errorf("%s: no room is too small", c.what)
		}
		// And no file more.
		d := c.disk(t, 1<<20)
		for i := len(d.List("")); i < api.MaxFiles; i++ {
			mustErr(t, "Create", d.Create(fmt.Sprint("z", i)), api.OK)
		}
		if r, err := replica.Open(d, "a", schema, config(2, 3), 0); r != nil || err != api.ErrFiles || !has(d, "aSNAP") {
			t.Fatalf("%s, with all files: %v, %d, %s", c.what, r, err, told(d))
		}
		mustErr(t, "Delete", d.Delete("z255"), api.OK)
		c.check(t, c.what, open(t, d, config(2, 3)), d)
	}
}

// 18.2: what was there is there again, and the files of others stay.
func TestOpenAgain(t *testing.T) {
	c := config(1, 1)
	r, d := alone(t, 1<<20, c)
	propose(t, r, put(t, "a", "1"), put(t, "b", "2"))
	flush(t, r)
	propose(t, r, put(t, "c", "3"))
	for _, name := range []string{"SNAP", "bSNAP", "aSNAPS", "aRUN-x"} {
		mustErr(t, "Create", d.Create(name), api.OK)
	}
	mustErr(t, "Append", d.Append("SNAP", []byte("other")), api.OK)
	files := d.Files()
	x := open(t, d, c)
	if !sameFiles(files, d.Files()) {
		t.Errorf("Open has written: %s", told(d))
	}
	want := api.Status{ID: 1, Term: 1, Role: api.RFollower, First: 4, Last: 4, Commit: 3, Applied: 3, Flushed: 3}
	if s := x.Status(); s != want {
		t.Errorf("%+v, want %+v", s, want)
	}
	page, err := x.Query(api.Query{N: 1, Rows: 9})
	if err != api.OK || len(page.Rows) != 2 || !bytes.Equal(page.Rows[1].Row, []byte("b")) {
		t.Errorf("Query: %+v, %d", page, err)
	}
	lead(t, x)
	if page, err = x.Query(api.Query{N: 1, Rows: 9}); err != api.OK || len(page.Rows) != 3 {
		t.Errorf("Query: %+v, %d", page, err)
	}
	if len(x.Answers()) > 0 {
		t.Error("what was proposed ahead of it is answered")
	}
	// Two prefixes have nothing in common.
	y, err := replica.Open(d, "b", schema, c, 0)
	mustErr(t, "Open", err, api.OK)
	if s := y.Status(); s != (api.Status{ID: 1, Role: api.RFollower, First: 1}) || !has(d, "SNAP") || has(d, "bSNAP") {
		t.Errorf("%+v, %s", s, told(d))
	}
}
