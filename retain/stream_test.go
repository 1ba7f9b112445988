package retain_test

import (
	"bytes"
	"math"
	"math/rand"
	"slices"
	"testing"

	"strata/api"
	"strata/cell"
	"strata/retain"
)

// pusher is what a Filter and a Reader have in common.
type pusher interface {
	Push(api.Entry) ([]api.Entry, api.Errno)
	End() []api.Entry
}

func (d drawn) filter(t *testing.T) *retain.Filter {
	return must[*retain.Filter](t)(retain.NewFilter(d.s, d.clock, d.major, d.low))
}

func (d drawn) reader(t *testing.T) *retain.Reader {
	return must[*retain.Reader](t)(retain.NewReader(d.s, d.clock, d.t, d.n))
}

func newFilter(t *testing.T, major bool, low int) *retain.Filter {
	return must[*retain.Filter](t)(retain.NewFilter(example(), 12, major, low))
}

func newReader(t *testing.T, at, n int) *retain.Reader {
	return must[*retain.Reader](t)(retain.NewReader(example(), 12, at, n))
}

// pushAll is what Push answers of all of them, one behind the other.
func pushAll(t *testing.T, p pusher, l []api.Entry) []api.Entry {
	t.Helper()
	var out []api.Entry
	for _, e := range l {
		out = append(out, must[[]api.Entry](t)(p.Push(e))...)
	}
	return out
}

// streamed is what Push and End answer of all of them.
func streamed(t *testing.T, p pusher, l []api.Entry) []api.Entry {
	t.Helper()
	out := pushAll(t, p, l)
	return append(out, p.End()...)
}

// 3.4
func TestNewStreams(t *testing.T) {
	type numbers struct{ clock, low, t, n int }
	check := func(s api.Schema, x numbers, filter, reader api.Errno) {
		t.Helper()
		for _, major := range []bool{false, true} {
			if f, err := retain.NewFilter(s, x.clock, major, x.low); err != filter || (f == nil) != (err != api.OK) {
				t.Errorf("NewFilter of %+v = %v, %d, want %d", x, f, err, filter)
			}
		}
		if r, err := retain.NewReader(s, x.clock, x.t, x.n); err != reader || (r == nil) != (err != api.OK) {
			t.Errorf("NewReader of %+v = %v, %d, want %d", x, r, err, reader)
		}
	}
	for _, n := range []int{0, 1, api.MaxTime} {
		check(example(), numbers{n, 0, 0, 1}, api.OK, api.OK)
		check(example(), numbers{0, n, 0, 1}, api.OK, api.OK)
		check(example(), numbers{0, 0, n, 16}, api.OK, api.OK)
	}
	for _, n := range []int{-1, math.MinInt, api.MaxTime + 1, math.MaxInt} {
		check(example(), numbers{n, 0, 0, 1}, api.ErrTimes, api.ErrTimes)
		check(example(), numbers{0, n, 0, 1}, api.ErrTimes, api.OK)
		check(example(), numbers{0, 0, n, 1}, api.OK, api.ErrTimes)
	}
	for _, n := range []int{math.MinInt, -1, 0, 17, math.MaxInt} {
		check(example(), numbers{0, 0, 0, n}, api.OK, api.ErrTimes)
	}
	for _, s := range wrongSchemas() {
		check(s, numbers{0, 0, 0, 1}, api.ErrSchema, api.ErrSchema)
		check(s, numbers{-1, -1, -1, -1}, api.ErrSchema, api.ErrSchema)
	}
}

// 3.4
func TestPushRefuses(t *testing.T) {
	other := entry("put 7/20")
	other.Value = []byte("w")
	less := entry("put 7/20")
	less.Value = nil
	unread := entry("put r.1.q 7/20")
	unread.Ts = 0
	ahead := entry("put a.1.q 9/1")
	for _, c := range []struct {
		e   api.Entry
		err api.Errno
	}{
		{ahead, api.ErrFam}, {unread, api.ErrTs}, {entry("put r.1.q 7/20"), api.ErrFam}, {entry("put r.7.q 7/20"), api.ErrFam},
		{entry("put 9/1"), api.ErrOrder}, {entry("put 7/21"), api.ErrOrder}, {entry("col 1/1"), api.ErrOrder}, {entry("fam 1/1"), api.ErrOrder},
		{entry("put 8/20"), api.ErrOrder}, {entry("put q.0.q 7/20"), api.ErrOrder}, {entry("col 7/20"), api.ErrOrder}, {entry("fam 7/20"), api.ErrOrder},
		{other, api.ErrTwice}, {less, api.ErrTwice}, {entry("husk 7/20"), api.ErrTwice}, {entry("cell 7/20"), api.ErrTwice},
		{entry("put 6/20"), api.ErrTwice}, {entry("put r.0.z 9/20"), api.ErrTwice}, {entry("fam s.0. 9/20"), api.ErrTwice},
		{entry("put 7/20"), api.OK}, {entry("put 7/19"), api.OK}, {entry("put 6/21"), api.OK}, {entry("put ra.0. 9/99"), api.OK}, {entry("fam s.0. 1/0"), api.OK},
	} {
		for _, p := range []pusher{newFilter(t, false, 0), newFilter(t, true, 5), newReader(t, 9, 2)} {
			pushAll(t, p, list("put 7/20"))
			if l, err := p.Push(c.e); err != c.err || err != api.OK && l != nil {
				t.Errorf("%T: Push of %+v = %s, %d, want %d", p, c.e, text(l), err, c.err)
			}
		}
	}
	for _, e := range faulty() {
		for _, p := range []pusher{newFilter(t, false, 0), newReader(t, 9, 2)} {
			for range 2 {
				if l, err := p.Push(e); l != nil || err != cell.Check(e) {
					t.Errorf("%T: Push of %+v = %s, %d, want %d", p, e, text(l), err, cell.Check(e))
				}
				pushAll(t, p, list("put zz.0.z 1/20"))
			}
		}
	}
}

// 3.4: the first entry of a stream has none ahead of it.
func TestPushTakesAnyFirst(t *testing.T) {
	for _, e := range list("put 9/0, husk 9/0, cell 1/0, col 1/0, fam 1/0, put a.0. 1099511627776/17592186044431") {
		for _, p := range []pusher{newFilter(t, false, 0), newReader(t, 9, 2)} {
			if _, err := p.Push(e); err != api.OK {
				t.Errorf("%T: Push of %s: %d", p, text([]api.Entry{e}), err)
			}
		}
	}
}

// spoiled: entries that may not come behind e.
func spoiled(e api.Entry) []api.Entry {
	value := e
	value.Value = append(bytes.Clone(e.Value), 'x')
	back := e
	back.Row, back.Seq = []byte{0}, 0
	fam := e
	fam.Fam = 7
	seq := e
	seq.Row = append(bytes.Clone(e.Row), 0)
	return []api.Entry{value, back, fam, seq, {}}
}

// 3.4: a refused Push changes nothing, and the stream goes on.
func TestRefusedPushChangesNothing(t *testing.T) {
	r := rand.New(rand.NewSource(34))
	for range 1000 {
		d := draw(r)
		l := inOrder(d.l)
		a, b := d.filter(t), d.filter(t)
		x, y := d.reader(t), d.reader(t)
		for _, e := range l {
			for _, p := range [][2]pusher{{a, b}, {x, y}} {
				want := must[[]api.Entry](t)(p[0].Push(e))
				if got := must[[]api.Entry](t)(p[1].Push(e)); !sameLists(got, want) {
					t.Fatalf("%T of %s: %s, without refused ones %s", p[0], text(l), text(got), text(want))
				}
				for _, s := range spoiled(e) {
					if got, err := p[1].Push(s); got != nil || err == api.OK {
						t.Fatalf("%T: Push of %+v behind %+v: %s, %d", p[1], s, e, text(got), err)
					}
				}
			}
		}
		if !sameLists(a.End(), b.End()) || !sameLists(x.End(), y.End()) || a.Dropped() != b.Dropped() {
			t.Fatalf("of %s: the ends differ, or %+v and %+v", text(l), a.Dropped(), b.Dropped())
		}
	}
}

// 3.4: the same entry as the last one counts for nothing, but in Dropped.
func TestTheSameEntryAgain(t *testing.T) {
	for _, e := range list("put 9/1, husk 9/1, cell 9/1, col 9/1, fam 9/1") {
		again := e
		again.Qual, again.Value = slices.Concat(e.Qual, []byte{}), slices.Concat(e.Value, []byte{})
		f, once := newFilter(t, false, 0), newFilter(t, false, 0)
		got := streamed(t, f, []api.Entry{e, again, e})
		want := streamed(t, once, []api.Entry{e})
		if !sameLists(got, want) || f.Dropped() != (api.Dropped{Older: 2}) || once.Dropped() != (api.Dropped{}) {
			t.Errorf("%s: %s, once %s, %+v", text([]api.Entry{e}), text(got), text(want), f.Dropped())
		}
	}
	empty := entry("put 9/1")
	empty.Value = nil
	bare := empty
	bare.Value = []byte{}
	for _, p := range []pusher{newFilter(t, false, 0), newReader(t, 9, 2)} {
		if got := streamed(t, p, []api.Entry{empty, bare}); len(got) != 1 {
			t.Errorf("%T: no value, and an empty one: %s", p, text(got))
		}
	}
	r := newReader(t, 9, 2)
	if got := streamed(t, r, list("put 9/1, put 9/1, put 8/2, put 8/2")); text(got) != "put 9/1, put 8/2" {
		t.Errorf("a Reader: %s", text(got))
	}
}

// 3.4: behind an End the stream is as new, but for Dropped.
func TestBehindAnEnd(t *testing.T) {
	r := rand.New(rand.NewSource(304))
	for range 1000 {
		d := draw(r)
		f, p := d.filter(t), d.reader(t)
		if f.End() != nil || p.End() != nil || f.Dropped() != (api.Dropped{}) {
			t.Fatal("something comes out of an empty stream")
		}
		var all api.Dropped
		for range 3 {
			d.l = drawEntries(r, r.Intn(12), 0)
			l, m := inOrder(d.l), d.model()
			if got, want := streamed(t, f, l), m.squash(d.major, d.low); !sameLists(got, want) {
				t.Fatalf("of %s: %s, want %s", text(l), text(got), text(want))
			}
			if got, want := streamed(t, p, l), m.read(d.t, d.n); !sameLists(got, want) {
				t.Fatalf("of %s: %s, want %s", text(l), text(got), text(want))
			}
			all = sum(all, m.dropped(d.major, d.low))
			if f.Dropped() != all || f.Dropped() != all {
				t.Fatalf("of %s: dropped %+v, want %+v", text(l), f.Dropped(), all)
			}
		}
	}
}

func sum(a, b api.Dropped) api.Dropped {
	return api.Dropped{Older: a.Older + b.Older, Masked: a.Masked + b.Masked, Expired: a.Expired + b.Expired, Above: a.Above + b.Above, Marks: a.Marks + b.Marks}
}

func total(d api.Dropped) int { return d.Older + d.Masked + d.Expired + d.Above + d.Marks }

// again puts some entries twice, behind one another.
func again(r *rand.Rand, l []api.Entry) []api.Entry {
	var out []api.Entry
	for _, e := range l {
		for range 1 + r.Intn(4)/3 {
			out = append(out, e)
		}
	}
	return out
}

// 3.5, 3.6: of drawn lists, some entries twice.
func TestStreamsOfDrawn(t *testing.T) {
	r := rand.New(rand.NewSource(35))
	for range 3000 {
		d := draw(r)
		l := again(r, inOrder(d.l))
		f := d.filter(t)
		got := streamed(t, f, l)
		if want := must[[]api.Entry](t)(retain.Squash(d.s, d.clock, d.major, d.low, d.l...)); !sameLists(got, want) {
			t.Fatalf("%+v, clock %d: a Filter(%v, %d) of %s: %s, want %s", d.s, d.clock, d.major, d.low, text(l), text(got), text(want))
		}
		want := d.model().dropped(d.major, d.low)
		want.Older += len(l) - len(d.l)
		if f.Dropped() != want || total(want)+len(got) != len(l) {
			t.Fatalf("%+v, clock %d: a Filter(%v, %d) of %s: dropped %+v, want %+v", d.s, d.clock, d.major, d.low, text(l), f.Dropped(), want)
		}
		got = streamed(t, d.reader(t), l)
		if want := must[[]api.Entry](t)(retain.Read(d.s, d.clock, d.t, d.n, d.l...)); !sameLists(got, want) {
			t.Fatalf("%+v, clock %d: a Reader(%d, %d) of %s: %s, want %s", d.s, d.clock, d.t, d.n, text(l), text(got), text(want))
		}
	}
}

// 3.5: behind a Push of an entry of another row all that stays of the rows ahead of it has been answered.
func TestRowsAreAnswered(t *testing.T) {
	r := rand.New(rand.NewSource(305))
	upTo := func(l []api.Entry, row []byte) []api.Entry {
		return slices.DeleteFunc(slices.Clone(l), func(e api.Entry) bool { return bytes.Compare(e.Row, row) >= 0 })
	}
	for range 1000 {
		d := draw(r)
		l, m := inOrder(d.l), d.model()
		for _, x := range []struct {
			p    pusher
			want []api.Entry
		}{{d.filter(t), m.squash(d.major, d.low)}, {d.reader(t), m.read(d.t, d.n)}} {
			var got []api.Entry
			for _, e := range l {
				got = append(got, must[[]api.Entry](t)(x.p.Push(e))...)
				if want := upTo(x.want, e.Row); !sameLists(upTo(got, e.Row), want) {
					t.Fatalf("%T of %s: behind %s: %s, want %s", x.p, text(l), text([]api.Entry{e}), text(got), text(want))
				}
			}
		}
	}
	f := newFilter(t, false, 0)
	pushAll(t, f, list("cell 9/1"))
	if got := pushAll(t, f, list("put s.0.q 9/2")); len(got) == 0 || text(got[:1]) != "cell 9/1" {
		t.Errorf("a cell tombstone at a row's end: %s", text(got))
	}
}

// 3.4, 3.6: only neighbours are looked at: a Seq that comes again later is taken, and counted.
func TestASeqComesAgainLater(t *testing.T) {
	for _, s := range []string{"put 9/1, put 8/2, put 7/1", "cell 9/2, cell 9/1, put 8/2", "fam 9/1, col 8/2, put 9/1, cell 9/0", "cell 9/5, put 9/4, cell 8/5, put 8/4"} {
		l := list(s)
		f := newFilter(t, true, 0)
		if got := streamed(t, f, l); len(got)+total(f.Dropped()) != len(l) {
			t.Errorf("%s: %s and %+v", s, text(got), f.Dropped())
		}
		streamed(t, newReader(t, 9, 1), l)
	}
}

// 3.6
func TestDropped(t *testing.T) {
	for _, c := range []struct {
		in           string
		minor, major api.Dropped
	}{
		{"", api.Dropped{}, api.Dropped{}},
		{"put 9/1, put 7/2, cell 5/4, put 5/3", api.Dropped{Above: 1, Older: 1}, api.Dropped{Above: 1, Older: 1}},
		{"cell 9/3, put 9/1", api.Dropped{Older: 1}, api.Dropped{Older: 1}},
		{"put 9/3, cell 9/2, husk 9/1", api.Dropped{Older: 2}, api.Dropped{Older: 2}},
		// A group that is nothing.
		{"cell 9/3, cell 9/2, cell 9/1", api.Dropped{Older: 2}, api.Dropped{Older: 2, Marks: 1}},
		{"put 9/1, put 8/2, cell 7/3", api.Dropped{}, api.Dropped{Marks: 1}},
		{"cell 2/3, cell 2/1", api.Dropped{Older: 1, Expired: 1}, api.Dropped{Older: 1, Expired: 1}},
		{"col 9/1, cell 9/3", api.Dropped{Masked: 1}, api.Dropped{Masked: 1}},
		// What is out by both is masked; what is out has no rank.
		{"fam 2/1, put 2/2, put 1/3", api.Dropped{Masked: 2}, api.Dropped{Masked: 2, Marks: 1}},
		{"col 6/1, put 9/2, put 8/3, put 6/4, put 2/5", api.Dropped{Masked: 2}, api.Dropped{Masked: 2}},
		{"put 9/2, put 8/3, put 2/5", api.Dropped{Expired: 1}, api.Dropped{Expired: 1}},
		{"col 9/9, put 9/3, cell 9/2", api.Dropped{Older: 1, Masked: 1}, api.Dropped{Older: 1, Masked: 1}},
		{"put 2/3, put 2/2", api.Dropped{Older: 1, Expired: 1}, api.Dropped{Older: 1, Expired: 1}},
		{"husk 9/1, husk 8/2, husk 7/3, put 6/4", api.Dropped{Above: 2}, api.Dropped{Above: 2}},
		// Tombstones of columns and families: low is 5 in the major one.
		{"fam 9/1, fam 8/2, col 9/3, col 8/4", api.Dropped{Marks: 3}, api.Dropped{Marks: 3}},
		{"fam 5/1, col 6/2, col 6/0", api.Dropped{Marks: 1}, api.Dropped{Marks: 2}},
		{"fam 4/1, col 5/2", api.Dropped{}, api.Dropped{Marks: 2}},
		// The same one again is older, whatever it is.
		{"fam 4/1, fam 4/1, col 4/2, col 4/2, put 9/3, put 9/3", api.Dropped{Older: 3, Marks: 1}, api.Dropped{Older: 3, Marks: 2}},
		{"cell 2/3, cell 2/3, put 1/4", api.Dropped{Older: 1, Expired: 2}, api.Dropped{Older: 1, Expired: 2}},
	} {
		minor, major := newFilter(t, false, 5), newFilter(t, true, 5)
		a, b := streamed(t, minor, list(c.in)), streamed(t, major, list(c.in))
		if minor.Dropped() != c.minor || major.Dropped() != c.major {
			t.Errorf("%s: dropped %+v, %+v, want %+v, %+v", c.in, minor.Dropped(), major.Dropped(), c.minor, c.major)
		}
		if n := len(list(c.in)); len(a)+total(c.minor) != n || len(b)+total(c.major) != n {
			t.Errorf("%s: %s and %s", c.in, text(a), text(b))
		}
	}
}
