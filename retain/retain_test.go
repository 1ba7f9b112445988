package retain_test

import (
	"bytes"
	"math"
	"math/rand"
	"testing"

	"strata/api"
	"strata/cell"
	"strata/retain"
)

// 3.1
func TestSort(t *testing.T) {
	for _, c := range []struct{ in, want string }{
		{"", ""},
		{"put 9/1", "put 9/1"},
		{"put 7/2, put 9/1", "put 9/1, put 7/2"},
		{"put 9/1, put 9/2", "put 9/2, put 9/1"},
		{"put 9/0, col 3/5, fam 2/4, cell 9/3, husk 9/2", "fam 2/4, col 3/5, cell 9/3, husk 9/2, put 9/0"},
		{"put b.0.q 9/1, put a.1.q 9/2, put a.0.z 9/3, put ab.0. 9/4", "put a.0.z 9/3, put a.1.q 9/2, put ab.0. 9/4, put b.0.q 9/1"},
		{"put 9/1, put 7/2, put 9/1, put 7/2, put 9/1", "put 9/1, put 7/2"},
		{"fam 9/1, fam 9/1", "fam 9/1"},
		{"put a.7.q 9/1, put a.7.q 1099511627776/17592186044431", "put a.7.q 1099511627776/17592186044431, put a.7.q 9/1"},
	} {
		if l, err := retain.Sort(list(c.in)...); text(l) != c.want || err != api.OK {
			t.Errorf("Sort of %s = %s, %d, want %s", c.in, text(l), err, c.want)
		}
	}
}

// 3.1: nil and empty bytes make no other entry.
func TestSortTakesNilForEmpty(t *testing.T) {
	a := api.Entry{Row: []byte("r"), Qual: nil, Ts: 1, Kind: api.KPut, Value: []byte{}}
	b := api.Entry{Row: []byte("r"), Qual: []byte{}, Ts: 1, Kind: api.KPut, Value: nil}
	if l, err := retain.Sort(a, b, a); len(l) != 1 || !same(l[0], a) || err != api.OK {
		t.Errorf("%+v, %d", l, err)
	}
}

// 3.1: one Seq, two entries, however they differ and wherever they stand.
func TestSortOneSeqTwoEntries(t *testing.T) {
	a := entry("put a.0.q 9/5")
	others := list("put b.0.q 9/5, put a.1.q 9/5, put a.0.r 9/5, put a.0.q 8/5, husk a.0.q 9/5, cell a.0.q 9/5, col a.0.q 9/5, fam a.0.q 9/5")
	value := a
	value.Value = []byte("w")
	none := a
	none.Value = nil
	between := list("put a.0.q 9/6, put a.0.q 9/4, put aa.0.q 9/3")
	for _, b := range append(others, value, none) {
		for _, l := range [][]api.Entry{{a, b}, {b, a}, {a, a, b}, join([]api.Entry{a}, between, []api.Entry{b}), join([]api.Entry{b}, between, []api.Entry{a})} {
			if got, err := retain.Sort(l...); got != nil || err != api.ErrTwice {
				t.Errorf("Sort of %s = %s, %d", text(l), text(got), err)
			}
			if got, err := retain.Squash(fams(api.Family{Max: 1}, api.Family{Max: 1}), 0, false, 0, l...); got != nil || err != api.ErrTwice {
				t.Errorf("Squash of %s = %s, %d", text(l), text(got), err)
			}
		}
	}
}

// faulty: entries that cell.Check refuses, one for each reason.
func faulty() []api.Entry {
	var l []api.Entry
	for _, spoil := range []func(*api.Entry){
		func(e *api.Entry) { e.Row = nil },
		func(e *api.Entry) { e.Row = bytes.Repeat([]byte{'r'}, 257) },
		func(e *api.Entry) { e.Fam = -1 },
		func(e *api.Entry) { e.Fam = 8 },
		func(e *api.Entry) { e.Fam = math.MinInt },
		func(e *api.Entry) { e.Qual = bytes.Repeat([]byte{'q'}, 257) },
		func(e *api.Entry) { e.Ts = 0 },
		func(e *api.Entry) { e.Ts = api.MaxTime + 1 },
		func(e *api.Entry) { e.Seq = -1 },
		func(e *api.Entry) { e.Seq = api.MaxSeq + 1 },
		func(e *api.Entry) { e.Kind = 0 },
		func(e *api.Entry) { e.Kind = 6 },
		func(e *api.Entry) { e.Kind = api.KHusk },
		func(e *api.Entry) { e.Value = make([]byte, 4097) },
	} {
		e := entry("put 9/1")
		spoil(&e)
		l = append(l, e)
	}
	return l
}

// 3.1: the first faulty entry is told, and that ahead of two with one Seq.
func TestSortTellsTheFirstFault(t *testing.T) {
	twice := list("put 9/1, put 8/1")
	for _, a := range faulty() {
		for _, b := range faulty() {
			for _, l := range [][]api.Entry{{a}, {a, b}, {a, twice[0], b, twice[1]}, {twice[0], twice[1], a, b}} {
				if got, err := retain.Sort(l...); got != nil || err != cell.Check(a) {
					t.Errorf("Sort of %+v = %+v, %d, want %d", l, got, err, cell.Check(a))
				}
			}
		}
	}
}

// 3.1
func TestSortOfDrawn(t *testing.T) {
	r := rand.New(rand.NewSource(31))
	for range 3000 {
		d := draw(r)
		l := d.doubled(r)
		if got, err := retain.Sort(l...); !sameLists(got, inOrder(d.l)) || err != api.OK {
			t.Fatalf("Sort of %s = %s, %d", text(l), text(got), err)
		}
	}
}

// ask is one of the calls that take a schema, with numbers that are right unless they are set.
type ask struct {
	s                api.Schema
	clock, low, t, n int
	l                []api.Entry
}

func right() ask { return ask{s: example(), clock: 12, low: 5, t: 8, n: 1} }

// all asks the same of all calls: what each answers, whether it is nothing.
func (a ask) all(t *testing.T, want map[string]api.Errno) {
	t.Helper()
	vis, visErr := retain.Vis(a.s, a.clock, a.l...)
	read, readErr := retain.Read(a.s, a.clock, a.t, a.n, a.l...)
	minor, minorErr := retain.Squash(a.s, a.clock, false, a.low, a.l...)
	major, majorErr := retain.Squash(a.s, a.clock, true, a.low, a.l...)
	top, topErr := retain.Top(a.s, a.clock, a.l...)
	for _, c := range []struct {
		name string
		err  api.Errno
		none bool
	}{
		{"Vis", visErr, vis == nil}, {"Read", readErr, read == nil},
		{"Squash", minorErr, minor == nil}, {"Squash", majorErr, major == nil}, {"Top", topErr, top == 0},
	} {
		if c.err != want[c.name] || c.err != api.OK && !c.none {
			t.Errorf("%s of %+v: %d, want %d; beside it nothing: %v", c.name, a, c.err, want[c.name], c.none)
		}
	}
}

func each(err api.Errno) map[string]api.Errno {
	return map[string]api.Errno{"Vis": err, "Read": err, "Squash": err, "Top": err}
}

func only(name string, err api.Errno) map[string]api.Errno { return map[string]api.Errno{name: err} }

// 3.2
func TestNumbersOfTheCalls(t *testing.T) {
	for _, n := range []int{-1, math.MinInt, api.MaxTime + 1, math.MaxInt} {
		a, b, c := right(), right(), right()
		a.clock, b.low, c.t = n, n, n
		a.all(t, each(api.ErrTimes))
		b.all(t, only("Squash", api.ErrTimes))
		c.all(t, only("Read", api.ErrTimes))
	}
	for _, n := range []int{0, 1, api.MaxTime} {
		a, b, c := right(), right(), right()
		a.clock, b.low, c.t = n, n, n
		a.all(t, each(api.OK))
		b.all(t, each(api.OK))
		c.all(t, each(api.OK))
	}
	for _, n := range []int{math.MinInt, -1, 0, 17, math.MaxInt} {
		a := right()
		a.n = n
		a.all(t, only("Read", api.ErrTimes))
	}
	for _, n := range []int{1, 2, 16} {
		a := right()
		a.n = n
		a.all(t, each(api.OK))
	}
}

func wrongSchemas() []api.Schema {
	return []api.Schema{
		{}, fams(api.Family{Max: 0}), fams(api.Family{Max: 17}), fams(api.Family{Max: 1, TTL: -1}), fams(api.Family{Max: 1, TTL: api.MaxTime + 1}),
		{Fams: []api.Family{{Name: "a", Max: 1}, {Name: "a", Max: 1}}}, {Fams: []api.Family{{Name: "A", Max: 1}}}, fams(make([]api.Family, 9)...),
	}
}

// 3.2: the schema, ahead of the numbers, ahead of the entries.
func TestOrderOfFaults(t *testing.T) {
	bad := append(faulty(), entry("put 1/1"))
	for _, s := range wrongSchemas() {
		a := right()
		a.s = s
		a.all(t, each(api.ErrSchema))
		a.clock, a.low, a.t, a.n, a.l = -1, -1, -1, -1, bad
		a.all(t, each(api.ErrSchema))
	}
	a := right()
	a.clock, a.l = -1, bad
	a.all(t, each(api.ErrTimes))
	a = right()
	a.low, a.t, a.n, a.l = -1, -1, -1, bad
	a.all(t, map[string]api.Errno{"Vis": api.ErrRow, "Read": api.ErrTimes, "Squash": api.ErrTimes, "Top": api.ErrRow})
}

// 3.2: the first entry that has a fault, and that ahead of two with one Seq.
func TestFaultsOfEntries(t *testing.T) {
	beyond := entry("put r.1.q 9/1")
	unread := beyond
	unread.Ts = 0
	twice := list("put 9/1, put 8/1")
	cases := []struct {
		l   []api.Entry
		err api.Errno
	}{
		{[]api.Entry{beyond}, api.ErrFam}, {[]api.Entry{entry("fam r.7. 9/1")}, api.ErrFam},
		{[]api.Entry{unread}, api.ErrTs}, {[]api.Entry{unread, beyond}, api.ErrTs}, {[]api.Entry{beyond, unread}, api.ErrFam},
		{join(twice, []api.Entry{beyond}), api.ErrFam}, {join(twice, []api.Entry{unread}), api.ErrTs},
		{twice, api.ErrTwice}, {list("put 9/1, put 8/2, put 9/1, put 8/1"), api.ErrTwice},
	}
	for _, e := range faulty() {
		cases = append(cases, struct {
			l   []api.Entry
			err api.Errno
		}{join(twice, []api.Entry{e, beyond}), cell.Check(e)})
	}
	for _, c := range cases {
		a := right()
		a.l = c.l
		a.all(t, each(c.err))
	}
	a := right()
	a.s, a.l = fams(make([]api.Family, 8)...), list("put r.7.q 9/1, put r.0.q 9/2")
	for i := range a.s.Fams {
		a.s.Fams[i].Max = 1
	}
	a.all(t, each(api.OK))
}

// 3.3: the chapter's examples, and some edges beside them.
func TestExamples(t *testing.T) {
	for _, c := range []struct{ in, vis, minor, major string }{
		{"", "", "", ""},
		{"put 9/1, put 7/2, put 5/3", "put 9/1, put 7/2", "put 9/1, put 7/2", "put 9/1, put 7/2"},
		{"put 9/1, put 7/2, put 5/3, cell 7/4", "put 9/1", "put 9/1, husk 7/4", "put 9/1, husk 7/4"},
		{"put 9/1, cell 9/5, put 9/6", "put 9/6", "put 9/6", "put 9/6"},
		{"cell 9/5", "", "cell 9/5", ""},
		{"cell 9/5, cell 9/6", "", "cell 9/6", ""},
		{"put 9/1, col 9/2, put 9/3", "", "col 9/2", "col 9/2"},
		{"put 9/1, col 6/2, put 5/9, fam 4/3", "put 9/1", "fam 4/3, col 6/2, put 9/1", "col 6/2, put 9/1"},
		{"col 4/2, fam 4/3, put 5/1", "put 5/1", "fam 4/3, put 5/1", "put 5/1"},
		{"put 2/1, put 3/2", "put 3/2", "put 3/2", "put 3/2"},
		{"husk 9/4, put 8/1, put 7/2", "put 8/1", "husk 9/4, put 8/1", "husk 9/4, put 8/1"},

		// A KCell decides over older ones alone; those that it deletes may be husks, and stand behind other KCells.
		{"cell 9/5, husk 9/1", "", "husk 9/5", "husk 9/5"},
		{"cell 9/5, cell 9/4, put 9/1", "", "husk 9/5", "husk 9/5"},
		{"put 9/5, cell 9/4, husk 9/3", "put 9/5", "put 9/5", "put 9/5"},
		{"husk 9/5, put 9/4", "", "husk 9/5", "husk 9/5"},
		// Nothing has no rank: two versions beside it are shown.
		{"cell 9/1, put 8/2, put 7/3, put 6/4", "put 8/2, put 7/3", "cell 9/1, put 8/2, put 7/3", "put 8/2, put 7/3"},
		// Nothing behind what is kept stays nevertheless.
		{"put 9/1, put 8/2, cell 7/3", "put 9/1, put 8/2", "put 9/1, put 8/2, cell 7/3", "put 9/1, put 8/2"},
		// Nothing that is out goes.
		{"cell 9/1, col 9/2, cell 2/3", "", "col 9/2", "col 9/2"},
		{"cell 2/1, cell 3/2", "", "cell 3/2", ""},
		// Of tombstones the greatest Ts, then the greatest Seq; a KCol only above all KFam.
		{"col 9/2, col 9/7, col 8/9", "", "col 9/7", "col 9/7"},
		{"fam 9/2, fam 9/7, fam 8/9, col 9/8", "", "fam 9/7", "fam 9/7"},
		{"fam 5/1, col 6/2, put 6/3, put 7/4", "put 7/4", "fam 5/1, col 6/2, put 7/4", "fam 5/1, col 6/2, put 7/4"},
		// They are not bound by the time to live.
		{"fam 1/1, col 2/2", "", "fam 1/1, col 2/2", ""},
		// A KFam masks all columns of its row and family, a KCol its own alone.
		{"fam 7/1, put r.0. 7/2, put r.0.p 8/3, put r.0.z 7/4", "put r.0.p 8/3", "fam 7/1, put r.0.p 8/3", "fam 7/1, put r.0.p 8/3"},
		{"col 7/1, put r.0. 7/2, put r.0.p 7/3, put r.0.qq 7/4", "put r.0. 7/2, put r.0.p 7/3, put r.0.qq 7/4", "put r.0. 7/2, put r.0.p 7/3, col 7/1, put r.0.qq 7/4", "put r.0. 7/2, put r.0.p 7/3, col 7/1, put r.0.qq 7/4"},
		{"col r.0. 7/1, put r.0. 7/2, put r.0.p 7/3", "put r.0.p 7/3", "col r.0. 7/1, put r.0.p 7/3", "col r.0. 7/1, put r.0.p 7/3"},
		{"fam 7/1, put a.0.q 7/2, put s.0.q 7/3", "put a.0.q 7/2, put s.0.q 7/3", "put a.0.q 7/2, fam 7/1, put s.0.q 7/3", "put a.0.q 7/2, fam 7/1, put s.0.q 7/3"},
		// Each column has ranks of its own.
		{"put r.0.a 9/1, put r.0.a 8/2, put r.0.a 7/3, put r.0.b 7/4, put r.0.b 6/5", "put r.0.a 9/1, put r.0.a 8/2, put r.0.b 7/4, put r.0.b 6/5", "put r.0.a 9/1, put r.0.a 8/2, put r.0.b 7/4, put r.0.b 6/5", "put r.0.a 9/1, put r.0.a 8/2, put r.0.b 7/4, put r.0.b 6/5"},
		{"put 9/1, put s.0.q 9/2, put s.0.q 8/3", "put 9/1, put s.0.q 9/2, put s.0.q 8/3", "put 9/1, put s.0.q 9/2, put s.0.q 8/3", "put 9/1, put s.0.q 9/2, put s.0.q 8/3"},
		// A group that waits ends with its column, and with its row.
		{"cell 9/1, put r.0.qq 9/2", "put r.0.qq 9/2", "cell 9/1, put r.0.qq 9/2", "put r.0.qq 9/2"},
		{"cell 9/1, put s.0.q 9/2", "put s.0.q 9/2", "cell 9/1, put s.0.q 9/2", "put s.0.q 9/2"},
		{"col 9/1, cell 9/2", "", "col 9/1", "col 9/1"},
	} {
		r := rand.New(rand.NewSource(33))
		for range 4 {
			l := shuffled(r, list(c.in))
			vis, e1 := retain.Vis(example(), 12, l...)
			minor, e2 := retain.Squash(example(), 12, false, 4, l...)
			major, e3 := retain.Squash(example(), 12, true, 4, l...)
			if text(vis) != c.vis || text(minor) != c.minor || text(major) != c.major || e1 != api.OK || e2 != api.OK || e3 != api.OK {
				t.Errorf("%s: Vis %s, minor %s, major %s (%d, %d, %d); want %s; %s; %s", text(l), text(vis), text(minor), text(major), e1, e2, e3, c.vis, c.minor, c.major)
			}
		}
	}
}

// 3.3
func TestRead(t *testing.T) {
	for _, c := range []struct {
		in   string
		t, n int
		want string
	}{
		{"put 9/1, put 7/2, put 5/3", 8, 1, "put 7/2"},
		{"put 9/1, put 7/2, put 5/3", 6, 1, ""},
		{"put 9/1, col 9/2, put 7/3", 8, 2, ""},
		{"put 9/1, put 7/2", 0, 16, ""},
		{"put 9/1, put 7/2", 6, 16, ""},
		{"put 9/1, put 7/2", 7, 16, "put 7/2"},
		{"put 9/1, put 7/2", 9, 1, "put 9/1"},
		{"put 9/1, put 7/2", api.MaxTime, 16, "put 9/1, put 7/2"},
		{"husk 9/1, put 7/2", 9, 1, "put 7/2"},
		{"put r.0.a 9/1, put r.0.a 8/2, put r.0.b 7/3, put r.0.b 6/4", 9, 1, "put r.0.a 9/1, put r.0.b 7/3"},
		{"put 9/1, put 8/2, husk s.0.q 9/3, put s.0.q 8/4", 9, 1, "put 9/1, put s.0.q 8/4"},
		{"put 9/1, put 8/2, cell s.0.q 9/3, put s.0.q 8/4, put s.0.q 7/5", 9, 1, "put 9/1, put s.0.q 8/4"},
	} {
		if l, err := retain.Read(example(), 12, c.t, c.n, list(c.in)...); text(l) != c.want || err != api.OK {
			t.Errorf("Read(%d, %d) of %s = %s, %d, want %s", c.t, c.n, c.in, text(l), err, c.want)
		}
	}
}

// 3.3
func TestTop(t *testing.T) {
	for _, c := range []struct {
		in   string
		want int
	}{
		{"", 0}, {"husk 9/4, put 8/1", 9}, {"put 9/1, col 9/2", 0}, {"cell 9/1, put 4/2", 4}, {"cell 9/3, put 9/2", 9},
		{"put 2/1", 0}, {"put 3/1", 3}, {"cell 9/1", 0}, {"col 9/1, fam 8/2", 0},
		{"put a.0.q 5/1, put b.0.q 8/2, put c.0.q 7/3", 8}, {"put a.0.q 8/1, put a.0.z 5/2", 8}, {"fam a.0. 8/3, put a.0.q 8/1, put b.0.q 5/2", 5},
	} {
		if n, err := retain.Top(example(), 12, list(c.in)...); n != c.want || err != api.OK {
			t.Errorf("Top of %s = %d, %d, want %d", c.in, n, err, c.want)
		}
	}
}

// 3.3: the last numbers that may be.
func TestLastNumbers(t *testing.T) {
	const last = api.MaxTime
	s := fams(api.Family{Max: 16, TTL: last}, api.Family{Max: 16, TTL: last - 1}, api.Family{Max: 16})
	a, b, c := entry("put r.0.q 1/1"), entry("put r.1.q 1/2"), entry("put r.2.q 1/3")
	top := entry("put r.1.q 1099511627776/17592186044431")
	if l, err := retain.Vis(s, last, a, b, c, top); !sameLists(l, []api.Entry{a, top, c}) || err != api.OK {
		t.Errorf("%s, %d", text(l), err)
	}
	mark := entry("col r.2.q 1099511627776/4")
	for _, x := range []struct {
		low  int
		want []api.Entry
	}{{last, nil}, {last - 1, []api.Entry{mark}}} {
		if l, err := retain.Squash(s, last, true, x.low, mark, c); !sameLists(l, x.want) || err != api.OK {
			t.Errorf("low %d: %s, %d", x.low, text(l), err)
		}
	}
	var many []api.Entry
	for i := range 40 {
		e := entry("put r.2.q 1/1")
		e.Ts, e.Seq = 100-i, i
		many = append(many, e)
	}
	if l, err := retain.Read(s, last, last, 16, many...); !sameLists(l, many[:16]) || err != api.OK {
		t.Errorf("%s, %d", text(l), err)
	}
	if l, err := retain.Read(s, last, 90, 16, many...); !sameLists(l, many[10:16]) || err != api.OK {
		t.Errorf("%s, %d", text(l), err)
	}
}

// 3.3: against the model, the entries in any order, some of them twice.
func TestCallsOfDrawn(t *testing.T) {
	r := rand.New(rand.NewSource(3))
	for range 6000 {
		d := draw(r)
		l, m := d.doubled(r), d.model()
		if got, err := retain.Vis(d.s, d.clock, l...); !sameLists(got, m.vis()) || err != api.OK {
			t.Fatalf("%+v, clock %d: Vis of %s = %s, %d, want %s", d.s, d.clock, text(l), text(got), err, text(m.vis()))
		}
		if got, err := retain.Read(d.s, d.clock, d.t, d.n, l...); !sameLists(got, m.read(d.t, d.n)) || err != api.OK {
			t.Fatalf("%+v, clock %d: Read(%d, %d) of %s = %s, %d, want %s", d.s, d.clock, d.t, d.n, text(l), text(got), err, text(m.read(d.t, d.n)))
		}
		if got, err := retain.Squash(d.s, d.clock, d.major, d.low, l...); !sameLists(got, m.squash(d.major, d.low)) || err != api.OK {
			t.Fatalf("%+v, clock %d: Squash(%v, %d) of %s = %s, %d, want %s", d.s, d.clock, d.major, d.low, text(l), text(got), err, text(m.squash(d.major, d.low)))
		}
		if got, err := retain.Top(d.s, d.clock, l...); got != m.top() || err != api.OK {
			t.Fatalf("%+v, clock %d: Top of %s = %d, %d, want %d", d.s, d.clock, text(l), got, err, m.top())
		}
	}
}
