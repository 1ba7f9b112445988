package tree_test

import (
	"bytes"
	"fmt"
	"slices"
	"strings"
	"testing"

	"strata/api"
	"strata/disk"
	"strata/tree"
)

// The chapter's examples, in turn.
func TestExamples(t *testing.T) {
	d := newDisk(t, 1<<20)
	x := open(t, d, "t")
	m := newModel("t", options())
	mustBe(t, "a new tree", x, m)
	mustErr(t, "a gap", x.Apply(2, 1, 0), api.ErrIndex)
	mustErr(t, "a clock that falls", x.Apply(1, 0, 0), api.ErrClock)
	mustErr(t, "a low at the clock", x.Apply(1, 1, 1), api.ErrClock)
	mustErr(t, "one twice", x.Apply(1, 5, 0, p("a", 3, 1), p("a", 3, 1)), api.ErrThere)
	mustErr(t, "at low", x.Apply(1, 5, 2, p("a", 2, 1)), api.ErrTs)
	mustErr(t, "another index's", x.Apply(1, 5, 2, p("a", 3, 2)), api.ErrSeq)
	mustErr(t, "1", x.Apply(1, 5, 0, p("a", 3, 1)), api.OK)
	mustErr(t, "2", x.Apply(2, 5, 0, p("b", 4, 2)), api.OK)
	v := pin(t, x)
	if v.Index() != 2 || v.Clock() != 5 {
		t.Errorf("Index %d, Clock %d", v.Index(), v.Clock())
	}
	mustErr(t, "Flush", x.Flush([]byte("s")), api.OK)
	r := x.Runs()
	if n, b := x.Mem(); n != 0 || b != 0 || x.Flushed() != 2 || string(x.State()) != "s" || len(r) != 1 || r[0].Num != 1 || r[0].Count != 2 || r[0].Index != 2 || r[0].Low != 0 || r[0].Clock != 5 {
		t.Errorf("%d, %d, %d, %q, %+v", n, b, x.Flushed(), x.State(), r)
	}
	mustErr(t, "3", x.Apply(3, 6, 1, p("a", 6, 3)), api.OK)
	mustErr(t, "Flush", x.Flush([]byte("t")), api.OK)
	if r := x.Runs(); len(r) != 2 || r[0].Num != 2 || r[0].Index != 3 || r[0].Low != 1 || r[0].Clock != 6 || r[1].Num != 1 {
		t.Errorf("%+v", r)
	}
	for _, olds := range [][]int{{1, 1}, {9}, nil} {
		mustErr(t, "Replace", x.Replace(olds), api.ErrNoRun)
	}
	mustErr(t, "out of order", x.Replace([]int{1}, p("b", 4, 2), p("a", 3, 1)), api.ErrOrder)
	mustErr(t, "3 is above 2", x.Replace([]int{1}, p("a", 3, 3)), api.ErrSeq)
	mustErr(t, "Replace", x.Replace([]int{1}, p("a", 3, 1)), api.OK)
	if r := x.Runs(); len(r) != 2 || r[0].Num != 2 || r[1].Num != 3 || r[1].Count != 1 || r[1].Index != 2 || r[1].Low != 0 || r[1].Clock != 5 {
		t.Errorf("%+v", r)
	}
	both := []api.Entry{p("a", 3, 1), p("b", 4, 2)}
	mustTell(t, "Walk", walk(t, v, "", ""), both)
	if l := rows(t, v, "", "", true); !slices.Equal(l, []string{"b", "a"}) {
		t.Errorf("%q", l)
	}
	mustTell(t, "from a to b", walk(t, v, "a", "b"), both[:1])
	mustTell(t, "Source(0)", source(t, v, 0), both)
	_, err := v.Source(1)
	mustErr(t, "Source(1)", err, api.ErrNoRun)
	v.Release()
	_, err = v.Walk(nil, nil)
	mustErr(t, "a released view", err, api.ErrReleased)
	x = open(t, d, "t")
	if c, l := x.Sealed(); x.Applied() != 3 || x.Clock() != 6 || x.Low() != 1 || c != 6 || l != 1 || string(x.State()) != "t" {
		t.Errorf("%d, %d, %d, %d, %d, %q", x.Applied(), x.Clock(), x.Low(), c, l, x.State())
	}
	i := image(t, x)
	if i.Index != 3 || len(i.Runs) != 2 {
		t.Errorf("%+v", i)
	}
	mustErr(t, "Install", x.Install(i), api.ErrIndex)
}

func mustRefuse(t *testing.T, what string, d *disk.Disk, prefix string, s api.Schema, o api.Options, want api.Errno) {
	t.Helper()
	var was []api.File
	var acts int
	if d != nil {
		was, acts = d.Files(), d.Counts().Acts
	}
	if x, err := tree.Open(d, prefix, s, o); x != nil || err != want {
		t.Errorf("%s: %v, %d, want %d", what, x, err, want)
	}
	if d != nil && (!sameFiles(d.Files(), was) || d.Counts().Acts != acts) {
		t.Errorf("%s: Open changed something", what)
	}
}

// 11.1: the first of what is wrong is told, and nothing is changed.
func TestWhatOpenAsksFirst(t *testing.T) {
	long := strings.Repeat("p", 33)
	spoilt := func() *disk.Disk {
		return load(t, 1000, file("tMANIFEST", []byte("none")), file("tRUN-7", nil), file("tMANIFEST.TMP", nil))
	}
	down := spoilt()
	down.Arm(1)
	down.Create("x")
	none := api.Schema{}
	wrong := api.Options{}
	mustRefuse(t, "no disk", nil, "a b", none, wrong, api.ErrArg)
	mustRefuse(t, "a disk that is down", down, "a b", none, wrong, api.ErrDown)
	mustRefuse(t, "no name", spoilt(), "a b", none, wrong, api.ErrName)
	mustRefuse(t, "a long prefix", spoilt(), long, none, wrong, api.ErrName)
	mustRefuse(t, "no schema", spoilt(), "t", none, wrong, api.ErrSchema)
	mustRefuse(t, "no options", spoilt(), "t", one(), wrong, api.ErrOptions)
	mustRefuse(t, "no manifest", spoilt(), "t", one(), options(), api.ErrManifest)
	for _, prefix := range []string{"", "x.", long[:32]} {
		open(t, spoilt(), prefix)
	}
}

// 11.1
func TestOptions(t *testing.T) {
	for _, k := range []struct {
		least, most int
		set         func(o *api.Options, n int)
	}{
		{64, 65536, func(o *api.Options, n int) { o.Block = n }},
		{0, 20, func(o *api.Options, n int) { o.Bits = n }},
		{1, 1 << 22, func(o *api.Options, n int) { o.Mem = n }},
		{1, 64, func(o *api.Options, n int) { o.Stall = n }},
	} {
		for _, n := range []int{-1 << 63, -1, k.least - 1, k.most + 1, 1<<63 - 1} {
			o := options()
			k.set(&o, n)
			mustRefuse(t, "options", newDisk(t, 9), "t", one(), o, api.ErrOptions)
		}
		for _, n := range []int{k.least, k.most} {
			o := options()
			k.set(&o, n)
			x, err := tree.Open(newDisk(t, 9), "t", one(), o)
			if x == nil || err != api.OK {
				t.Errorf("%+v: %d", o, err)
			}
		}
	}
}

// 11.1: the options' Block and Bits are those of the runs.
func TestOptionsOfRuns(t *testing.T) {
	for _, o := range []api.Options{{Block: 64, Bits: 0, Mem: 1, Stall: 1}, {Block: 65536, Bits: 20, Mem: 1, Stall: 1}, {Block: 100, Bits: 3, Mem: 1, Stall: 1}} {
		d := newDisk(t, 1<<20)
		x, err := tree.Open(d, "t", one(), o)
		mustErr(t, "Open", err, api.OK)
		m := newModel("t", o)
		var l []api.Entry
		for i := range 16 {
			l = append(l, with(p("row-"+string(rune('a'+i)), 3, 1), func(e *api.Entry) { e.Seq += i }))
		}
		mustErr(t, "Apply", x.Apply(1, 5, 0, l...), api.OK)
		mustErr(t, "Flush", x.Flush(nil), api.OK)
		m = m.apply(1, 5, 0, l).flush(t, nil)
		mustHave(t, "flushed", d, m)
		mustErr(t, "Replace", x.Replace([]int{1}, l[3:]...), api.OK)
		mustHave(t, "replaced", d, m.replace(t, []int{1}, l[3:]))
	}
}

// three is a tree with three runs, the model of it, and its disk.
func three(t testing.TB) (*disk.Disk, *tree.Tree, model) {
	t.Helper()
	d := newDisk(t, 1<<20)
	x := open(t, d, "t")
	m := newModel("t", options())
	for i := 1; i <= 3; i++ {
		row := "a" + string(rune('a'+i))
		l := []api.Entry{p(row, 4+i, i), with(p(row, 9, i), func(e *api.Entry) { e.Seq += 5 })}
		mustErr(t, "Apply", x.Apply(i, 5+i, i, l...), api.OK)
		m = m.apply(i, 5+i, i, l)
		state := []byte{byte(i)}
		mustErr(t, "Flush", x.Flush(state), api.OK)
		m = m.flush(t, state)
	}
	mustBe(t, "three runs", x, m)
	mustHave(t, "three runs", d, m)
	return d, x, m
}

// 11.1, 11.15: a tree is opened as it was flushed; what came behind is not there.
func TestOpenWhatWasFlushed(t *testing.T) {
	d, x, m := three(t)
	mustErr(t, "Apply", x.Apply(4, 20, 4, p("z", 9, 4)), api.OK)
	acts := d.Counts().Acts
	y := open(t, d, "t")
	mustBe(t, "opened", y, m.reopened())
	mustSee(t, "opened", pin(t, y), m.reopened())
	if d.Counts().Acts != acts {
		t.Error("Open wrote something")
	}
	mustErr(t, "it goes on", y.Apply(4, 8, 3, p("y", 9, 4)), api.OK)
}

// 11.1: a run must be there, and sound, and what the version says.
func TestOpenOfUnsoundRuns(t *testing.T) {
	_, _, m := three(t)
	files := m.files(t)
	opens := func(what string, files []api.File, want api.Errno) {
		t.Helper()
		d := load(t, 1<<20, append(files, file("tRUN-99", nil))...)
		if want != api.OK {
			mustRefuse(t, what, d, "t", one(), options(), want)
			return
		}
		x := open(t, d, "t")
		mustBe(t, what, x, m.reopened())
	}
	opens("all is there", slices.Clone(files), api.OK)
	for i, f := range files {
		if f.Name == "tMANIFEST" {
			continue
		}
		opens("one is not there", slices.Delete(slices.Clone(files), i, i+1), api.ErrUnsound)
		for _, data := range [][]byte{nil, f.Data[:len(f.Data)-1], append(slices.Clone(f.Data), 0), files[1+i%3].Data} {
			l := slices.Clone(files)
			l[i] = file(f.Name, data)
			opens("another one's bytes", l, api.ErrUnsound)
		}
		for bit := range 8 * len(f.Data) {
			l := slices.Clone(files)
			l[i] = file(f.Name, slices.Clone(f.Data))
			l[i].Data[bit/8] ^= 1 << (bit % 8)
			opens("a bit is turned", l, api.ErrUnsound)
		}
	}
}

// 11.1: each thing that a version says of a run.
func TestOpenOfVersionsThatSayOtherwise(t *testing.T) {
	base := newModel("t", options())
	base.gen, base.next, base.flushed, base.sealedClock, base.sealed = 1, 9, 40, 40, 20
	for i := 1; i <= 3; i++ {
		l := []api.Entry{p("a", 5, 10*i), p("b", 5, 10*i-1)}
		base.runs = slices.Insert(base.runs, 0, pieceOf(t, base.options, 2*i, 10*i, 5*i, 10*i, l))
	}
	mustBe(t, "as the version says", open(t, load(t, 1<<20, base.files(t)...), "t"), base.reopened())
	for i, change := range []func(m *api.RunMeta){
		func(m *api.RunMeta) { m.Count++ },
		func(m *api.RunMeta) { m.Count-- },
		func(m *api.RunMeta) { m.Index-- },
		func(m *api.RunMeta) { m.Low-- },
		func(m *api.RunMeta) { m.Low++ },
		func(m *api.RunMeta) { m.Clock-- },
		func(m *api.RunMeta) { m.Clock++ },
		func(m *api.RunMeta) { m.Bytes++ },
		func(m *api.RunMeta) { m.First = m.Last },
		func(m *api.RunMeta) { m.Last = m.First },
		func(m *api.RunMeta) { m.Num-- },
	} {
		for place := range 3 {
			said := base
			said.runs = slices.Clone(base.runs)
			change(&said.runs[place].meta)
			files := base.files(t)
			files[0] = said.files(t)[0]
			mustRefuse(t, fmt.Sprintf("the version says otherwise, %d", i), load(t, 1<<20, files...), "t", one(), options(), api.ErrUnsound)
		}
	}
}

// 11.1: runs whose families the schema has not.
func TestOpenWithFewerFamilies(t *testing.T) {
	d := newDisk(t, 1<<20)
	x, err := tree.Open(d, "t", families(8), options())
	mustErr(t, "Open", err, api.OK)
	four := with(p("b", 3, 1), func(e *api.Entry) { e.Fam, e.Seq = 4, 17 })
	behind := with(p("c", 3, 1), func(e *api.Entry) { e.Seq = 18 })
	mustErr(t, "Apply", x.Apply(1, 5, 0, p("a", 3, 1), four, behind), api.OK)
	mustErr(t, "Flush", x.Flush(nil), api.OK)
	for n := 1; n <= 8; n++ {
		want := api.OK
		if n < 5 {
			want = api.ErrUnsound
		}
		if _, err := tree.Open(d, "t", families(n), options()); err != want {
			t.Errorf("%d families: %d, want %d", n, err, want)
		}
	}
}

// 11.1, 11.5: what the version does not name is swept, and nothing else.
func TestOpenSweeps(t *testing.T) {
	_, _, m := three(t)
	others := []api.File{file("tRUN-07", nil), file("tRUN-x", nil), file("RUN-9", nil), file("uRUN-1", nil), file("tOTHER", nil)}
	left := []api.File{file("tRUN-4", []byte("half")), {Name: "tRUN-90", Data: []byte("torn")}, file("tMANIFEST.TMP", nil)}
	for _, c := range []struct {
		what  string
		files []api.File
		m     model
	}{
		{"three runs", m.files(t), m.reopened()},
		{"no version", []api.File{file("tRUN-1", []byte("half"))}, newModel("t", options())},
	} {
		d := load(t, 1<<20, slices.Concat(c.files, others, left)...)
		x := open(t, d, "t")
		mustBe(t, c.what, x, c.m)
		want := slices.Concat(names(c.m.files(t)), names(others))
		slices.Sort(want)
		if got := d.List(""); !slices.Equal(got, want) {
			t.Errorf("%s: %q, want %q", c.what, got, want)
		}
		gone := len(left)
		if c.m.gen == 0 {
			gone++
		}
		if counts := d.Counts(); counts.Acts != gone || counts.Deletes != gone {
			t.Errorf("%s: %+v", c.what, counts)
		}
		for n := 1; n <= gone; n++ {
			d := load(t, 1<<20, slices.Concat(c.files, others, left)...)
			d.Arm(n)
			if x, err := tree.Open(d, "t", one(), options()); x != nil || err != api.ErrDown {
				t.Errorf("%s: power fails at %d: %v, %d", c.what, n, x, err)
			}
			d.Crash()
			mustBe(t, c.what, open(t, d, "t"), c.m)
			if got := d.List(""); !slices.Equal(got, want) {
				t.Errorf("%s: %q, want %q", c.what, got, want)
			}
		}
	}
}

// 11.1: a version with the greatest numbers, as a disk may have it.
func TestOpenAtTheEnd(t *testing.T) {
	m := newModel("t", options())
	m.gen, m.next, m.flushed, m.sealedClock, m.sealed = 1<<40, 1<<40, 1<<40, 1<<40, 1<<40-1
	e := with(p("a", 1<<40, 0), func(e *api.Entry) { e.Seq = 1<<44 + 15 })
	m.runs = []piece{pieceOf(t, m.options, 1<<40-1, 1<<40, 1<<40-1, 1<<40, []api.Entry{e})}
	m.state = bytes.Repeat([]byte("s"), 131072)
	d := load(t, 1<<20, m.files(t)...)
	x := open(t, d, "t")
	mustBe(t, "the end", x, m.reopened())
	mustErr(t, "Apply", x.Apply(1<<40+1, 1<<40, 1<<40-1), api.ErrIndex)
	mustErr(t, "Flush", x.Flush(nil), api.ErrVersion)
	mustErr(t, "Replace", x.Replace([]int{1<<40 - 1}, e), api.ErrVersion)
	mustErr(t, "Install", x.Install(api.Image{Index: 1<<40 + 1, Clock: 1 << 40, Low: 1<<40 - 1}), api.ErrIndex)
	mustBe(t, "all is refused", x, m.reopened())
	mustHave(t, "all is refused", d, m)
}

// 11.3, 11.7: with a generation, or a number of runs, that is the last one.
func TestLastNumbers(t *testing.T) {
	for _, k := range []struct {
		gen, next int
		flush     api.Errno // of a memtable with an entry
		empty     api.Errno // of one without
	}{
		{1 << 40, 5, api.ErrVersion, api.ErrVersion},
		{5, 1 << 40, api.ErrVersion, api.OK},
		{1<<40 - 1, 1<<40 - 1, api.OK, api.OK},
	} {
		m := newModel("t", options())
		m.gen, m.next = k.gen, k.next
		start := func() (*disk.Disk, *tree.Tree) {
			d := load(t, 1<<20, m.files(t)...)
			return d, open(t, d, "t")
		}
		d, x := start()
		mustErr(t, "Apply", x.Apply(1, 5, 0, p("a", 3, 1)), api.OK)
		mustErr(t, "Flush", x.Flush(nil), k.flush)
		if k.flush != api.OK {
			mustHave(t, "it is taken back", d, m)
			mustBe(t, "it is taken back", x, m.apply(1, 5, 0, []api.Entry{p("a", 3, 1)}))
		}
		_, x = start()
		mustErr(t, "Flush of nothing", x.Flush(nil), k.empty)
		image := api.Image{Index: 1, Clock: 5, Runs: [][]byte{pieceOf(t, options(), 0, 1, 0, 5, []api.Entry{p("a", 3, 1)}).data}}
		want := api.OK
		if k.flush != api.OK {
			want = api.ErrImage
		}
		d, x = start()
		mustErr(t, "Install", x.Install(image), want)
		if want != api.OK {
			mustHave(t, "nothing is written", d, m)
			if d.Counts().Acts != 0 {
				t.Errorf("%+v", d.Counts())
			}
		}
	}
}
