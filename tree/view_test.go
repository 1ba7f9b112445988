package tree_test

import (
	"bytes"
	"fmt"
	"math"
	"math/rand"
	"slices"
	"testing"

	"strata/api"
	"strata/tree"
)

// 11.8
func TestPins(t *testing.T) {
	x := open(t, newDisk(t, 0), "t")
	var views []*tree.View
	for i := range 64 {
		if x.Pins() != i {
			t.Fatalf("Pins %d, want %d", x.Pins(), i)
		}
		views = append(views, pin(t, x))
	}
	for range 2 {
		if v, err := x.Pin(); v != nil || err != api.ErrPins || x.Pins() != 64 {
			t.Fatalf("%v, %d, Pins %d", v, err, x.Pins())
		}
	}
	views[7].Release()
	views[7].Release()
	if x.Pins() != 63 {
		t.Errorf("Pins %d", x.Pins())
	}
	pin(t, x)
	_, err := x.Pin()
	mustErr(t, "Pin", err, api.ErrPins)
	for _, v := range views {
		v.Release()
	}
	if x.Pins() != 1 {
		t.Errorf("Pins %d, want 1", x.Pins())
	}
}

// 11.8, 11.17: whatever the tree does later, a view has what was there.
func TestViewsAreFixed(t *testing.T) {
	_, x, m := three(t)
	var views []*tree.View
	var models []model
	look := func(what string) {
		t.Helper()
		mustBe(t, what, x, m)
		views, models = append(views, pin(t, x)), append(models, m)
		for i, v := range views {
			mustSee(t, fmt.Sprintf("%s: view %d", what, i), v, models[i])
		}
	}
	look("first")
	for i := 4; i <= 8; i++ {
		l := []api.Entry{p("ab", 9+i, i), with(p("b", 9, i), func(e *api.Entry) { e.Seq += 7 })}
		mustErr(t, "Apply", x.Apply(i, 10+i, 5, l...), api.OK)
		m = m.apply(i, 10+i, 5, l)
		look("applied")
	}
	mustErr(t, "Flush", x.Flush([]byte("s")), api.OK)
	m = m.flush(t, []byte("s"))
	look("flushed")
	mustErr(t, "Apply", x.Apply(9, 30, 6, p("ab", 9, 9)), api.OK)
	m = m.apply(9, 30, 6, []api.Entry{p("ab", 9, 9)})
	look("applied")
	mustErr(t, "Replace", x.Replace([]int{1, 3, 4}, m.runs[0].l...), api.OK)
	m = m.replace(t, []int{1, 3, 4}, m.runs[0].l)
	look("replaced")
	i := api.Image{Index: 12, Clock: 31, Low: 6, Runs: [][]byte{pieceOf(t, options(), 0, 11, 0, 5, []api.Entry{p("aa", 3, 11)}).data}}
	mustErr(t, "Install", x.Install(i), api.OK)
	m = m.install(t, i)
	look("installed")
	mustErr(t, "Apply", x.Apply(13, 31, 6, p("ab", 9, 13)), api.OK)
	m = m.apply(13, 31, 6, []api.Entry{p("ab", 9, 13)})
	look("applied")
}

// wide is a tree with many rows in three runs and the memtable, and what it has.
func wide(t testing.TB, r *rand.Rand, bits int) (*tree.Tree, model) {
	o := options()
	o.Bits = bits
	x, err := tree.Open(newDisk(t, 1<<22), "t", families(3), o)
	mustErr(t, "Open", err, api.OK)
	m := newModel("t", o)
	for i := 1; i <= 120; i++ {
		l := drawCommand(r, 3, 0, i)
		mustErr(t, "Apply", x.Apply(i, 9, 0, l...), api.OK)
		m = m.apply(i, 9, 0, l)
		if i%35 == 0 {
			mustErr(t, "Flush", x.Flush(nil), api.OK)
			m = m.flush(t, nil)
		}
	}
	return x, m
}

// between is what a walk from here to there must tell.
func between(l []api.Entry, from, to string) []api.Entry {
	var out []api.Entry
	for _, e := range l {
		if string(e.Row) >= from && (to == "" || string(e.Row) < to) {
			out = append(out, e)
		}
	}
	return out
}

func rowsOf(l []api.Entry, back bool) []string {
	var out []string
	for _, e := range l {
		out = append(out, string(e.Row))
	}
	out = slices.Compact(out)
	if back {
		slices.Reverse(out)
	}
	return out
}

// 11.9, 11.10: all ranges, those of one row among them, with filters and without.
func TestRanges(t *testing.T) {
	r := rand.New(rand.NewSource(119))
	for _, bits := range []int{0, 1, 10} {
		x, m := wide(t, r, bits)
		v := pin(t, x)
		l := m.entries()
		ends := []string{"", "\x00", "\xff\xff\xff", string(make([]byte, 256)), string(bytes.Repeat([]byte{255}, 256))}
		for _, row := range rowsOf(l, false) {
			ends = append(ends, row, row+"\x00", row+"\x01", row[:1])
		}
		slices.Sort(ends)
		ends = slices.Compact(ends)
		for _, from := range ends {
			for _, to := range ends {
				if r.Intn(12) > 0 && to != from+"\x00" {
					continue
				}
				what := fmt.Sprintf("from %q to %q", from, to)
				want := between(l, from, to)
				mustTell(t, what, walk(t, v, from, to), want)
				for _, back := range []bool{false, true} {
					if got := rows(t, v, from, to, back); !slices.Equal(got, rowsOf(want, back)) {
						t.Fatalf("Rows %s: %q, want %q", what, got, rowsOf(want, back))
					}
				}
			}
		}
	}
}

// 11.9 to 11.11: what is wrong with the view comes first.
func TestViewsRefuse(t *testing.T) {
	_, x, _ := three(t)
	v := pin(t, x)
	long := make([]byte, 257)
	calls := []func() (bool, api.Errno){
		func() (bool, api.Errno) { s, err := v.Walk(long, nil); return s == nil, err },
		func() (bool, api.Errno) { s, err := v.Walk(nil, long); return s == nil, err },
		func() (bool, api.Errno) { s, err := v.Walk(long, long); return s == nil, err },
		func() (bool, api.Errno) { s, err := v.Rows(long, nil, false); return s == nil, err },
		func() (bool, api.Errno) { s, err := v.Rows(nil, long, true); return s == nil, err },
		func() (bool, api.Errno) { s, err := v.Rows(long, long, true); return s == nil, err },
		func() (bool, api.Errno) { s, err := v.Source(-1); return s == nil, err },
		func() (bool, api.Errno) { s, err := v.Source(4); return s == nil, err },
		func() (bool, api.Errno) { s, err := v.Source(math.MinInt); return s == nil, err },
		func() (bool, api.Errno) { s, err := v.Source(math.MaxInt); return s == nil, err },
	}
	for i, call := range calls {
		want := api.ErrRow
		if i > 5 {
			want = api.ErrNoRun
		}
		if none, err := call(); !none || err != want {
			t.Errorf("%d: %v, %d, want %d", i, none, err, want)
		}
	}
	v.Release()
	for i, call := range append(calls,
		func() (bool, api.Errno) { s, err := v.Walk(nil, nil); return s == nil, err },
		func() (bool, api.Errno) { s, err := v.Rows(nil, nil, false); return s == nil, err },
		func() (bool, api.Errno) { s, err := v.Source(0); return s == nil, err },
		func() (bool, api.Errno) { s, err := v.Source(1); return s == nil, err },
	) {
		if none, err := call(); !none || err != api.ErrReleased {
			t.Errorf("released, %d: %v, %d", i, none, err)
		}
	}
	if v.Index() != 3 || v.Clock() != 8 {
		t.Errorf("Index %d, Clock %d of a released view", v.Index(), v.Clock())
	}
}

// 11.9, 11.11: wherever a source is when its view is released, it tells nothing more; another view's goes on.
func TestReleasedSources(t *testing.T) {
	x, m := wide(t, rand.New(rand.NewSource(1112)), 8)
	want := map[int][]api.Entry{-1: m.entries(), 0: m.mem}
	for _, r := range m.runs {
		want[r.meta.Num] = r.l
	}
	for num, l := range want {
		for _, n := range []int{0, 1, 2, 31, 32, 33, len(l) - 1, len(l)} {
			v, other := pin(t, x), pin(t, x)
			s, err := v.Walk(nil, nil)
			if num >= 0 {
				s, err = v.Source(num)
			}
			mustErr(t, "a source", err, api.OK)
			for i := range min(n, len(l)) {
				if e, more, err := s.Next(); !more || err != api.OK || !same(e, l[i]) {
					t.Fatalf("%d of %d: %+v, %v, %d", i, num, e, more, err)
				}
			}
			v.Release()
			for range 3 {
				if e, more, err := s.Next(); more || err != api.ErrReleased || !same(e, api.Entry{}) {
					t.Fatalf("behind %d of %d: %+v, %v, %d", n, num, e, more, err)
				}
			}
			mustSee(t, "another view", other, m)
			other.Release()
		}
	}
}

// 11.10: a range may be left, begun again, also within its own loop, and ends with its view.
func TestRangesOverRows(t *testing.T) {
	x, m := wide(t, rand.New(rand.NewSource(1110)), 8)
	for _, back := range []bool{false, true} {
		want := rowsOf(m.entries(), back)
		v := pin(t, x)
		seq, err := v.Rows(nil, nil, back)
		mustErr(t, "Rows", err, api.OK)
		for n := range len(want) + 1 {
			var got []string
			for row := range seq {
				if len(got) == n {
					break
				}
				got = append(got, string(row))
			}
			if !slices.Equal(got, want[:n]) {
				t.Fatalf("left behind %d: %q", n, got)
			}
		}
		i := 0
		for row := range seq {
			if string(row) != want[i] || i < 3 && !slices.Equal(collect(seq), want) {
				t.Fatalf("%d: %q", i, row)
			}
			i++
		}
		for n := 1; n <= len(want); n += 5 {
			v := pin(t, x)
			seq, _ := v.Rows(nil, nil, back)
			var got []string
			for row := range seq {
				if got = append(got, string(row)); len(got) == n {
					v.Release()
				}
			}
			if !slices.Equal(got, want[:n]) || len(collect(seq)) != 0 {
				t.Fatalf("released behind %d: %q", n, got)
			}
		}
		v.Release()
		if got := collect(seq); len(got) != 0 {
			t.Errorf("a released view: %q", got)
		}
	}
}

// 11.10: also rows of which nothing is visible.
func TestRowsOfTombstones(t *testing.T) {
	x := open(t, newDisk(t, 1<<20), "t")
	var l []api.Entry
	for i, kind := range []int{api.KFam, api.KCol, api.KCell} {
		l = append(l, api.Entry{Row: []byte{byte('a' + i)}, Ts: 5, Seq: 16 + i, Kind: kind})
	}
	mustErr(t, "Apply", x.Apply(1, 5, 0, l...), api.OK)
	if got := rows(t, pin(t, x), "", "", false); !slices.Equal(got, []string{"a", "b", "c"}) {
		t.Errorf("%q", got)
	}
}

// 11.9, 11.17: entries that are applied while a memtable is being read are not told, wherever they stand.
func TestReadWhileApplied(t *testing.T) {
	r := rand.New(rand.NewSource(1117))
	for range 30 {
		x := open(t, newDisk(t, 1<<20), "t")
		m := newModel("t", options())
		index := 0
		more := func() {
			index++
			l := drawCommand(r, 1, 0, index)
			mustErr(t, "Apply", x.Apply(index, 5, 0, l...), api.OK)
			m = m.apply(index, 5, 0, l)
		}
		for range 40 {
			more()
		}
		was := m.entries()
		v := pin(t, x)
		s, _ := v.Walk(nil, nil)
		for i := 0; ; i++ {
			e, is, err := s.Next()
			mustErr(t, "Next", err, api.OK)
			if !is {
				if i != len(was) {
					t.Fatalf("%d entries, want %d", i, len(was))
				}
				break
			}
			if !same(e, was[i]) {
				t.Fatalf("%d: %+v, want %+v", i, e, was[i])
			}
			if r.Intn(3) == 0 {
				more()
			}
			if r.Intn(40) == 0 {
				mustErr(t, "Flush", x.Flush(nil), api.OK)
				m = m.flush(t, nil)
			}
		}
		mustBe(t, "behind it", x, m)
		mustSee(t, "behind it", pin(t, x), m)
	}
}
