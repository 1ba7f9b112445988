package merge_test

import (
	"iter"
	"math"
	"math/rand"
	"slices"
	"testing"

	"strata/api"
	"strata/mem"
	"strata/merge"
	"strata/run"
)

// The chapter's examples, in turn.
func TestExamples(t *testing.T) {
	a, b, c, d, x := five()
	of := merge.Of
	for i, k := range []struct {
		sources []merge.Source
		want    []api.Entry
		err     api.Errno
	}{
		{[]merge.Source{of(a, c), of(b, c)}, []api.Entry{a, b, c}, api.OK},
		{nil, nil, api.OK},
		{[]merge.Source{of(b, a)}, []api.Entry{b}, api.ErrSource},
		{[]merge.Source{of(a, c), of(b, b)}, []api.Entry{a, b}, api.ErrSource},
		{[]merge.Source{of(a, b), of(x, d)}, []api.Entry{a}, api.ErrTwice},
	} {
		got, err := merge.Take(newMerge(t, k.sources...), 9)
		if !sameAll(got, k.want) || err != k.err {
			t.Errorf("%d: %q, %d, want %q, %d", i, names(got), err, names(k.want), k.err)
		}
	}
	if m, err := merge.New(of(a), nil); m != nil || err != api.ErrSource {
		t.Errorf("New(Of(a), nil): %v, %d", m, err)
	}
	got, err := merge.Take(of(a, b, c), 2)
	mustTell(t, "Take(Of(a, b, c), 2)", got, err, []api.Entry{a, b}, api.OK)
	got, err = merge.Take(nil, 1)
	mustTell(t, "Take(nil, 1)", got, err, nil, api.ErrSource)
	got, err = merge.Side(nil, 9, of(a, c), of(b))
	mustTell(t, "Side(nil, 9, ..)", got, err, []api.Entry{a, b, c}, api.OK)
	got, err = merge.Side(nil, 1, of(a, c), of(b, d))
	mustTell(t, "Side(nil, 1, ..)", got, err, []api.Entry{a, b}, api.OK)
	done := make(chan struct{})
	close(done)
	got, err = merge.Side(done, 9, of(a))
	mustTell(t, "Side(closed, ..)", got, err, nil, api.ErrClosed)
}

// 9.1: in the order of the list, whatever that is, and behind it nothing, however often it is asked.
func TestOf(t *testing.T) {
	a, b, c, _, x := five()
	wild := api.Entry{Fam: -3, Ts: math.MinInt, Seq: math.MaxInt, Kind: 77}
	for _, l := range [][]api.Entry{nil, {a}, {a, b, c}, {c, b, a}, {a, a, x, b, x}, {wild, {}, wild}} {
		s := merge.Of(l...)
		for i, want := range l {
			if e, more, err := s.Next(); !more || err != api.OK || !same(e, want) {
				t.Fatalf("%d of %q: %+v, %v, %d", i, names(l), e, more, err)
			}
		}
		mustEnd(t, names(l), s, api.OK)
	}
	if merge.Of() == nil {
		t.Error("Of nothing is none")
	}
}

// counted counts how often a range is gone through, from its beginning and to its end.
func counted(l []api.Entry, begun, ended *int) iter.Seq[api.Entry] {
	return func(yield func(api.Entry) bool) {
		*begun++
		for _, e := range l {
			if !yield(e) {
				return
			}
		}
		*ended++
	}
}

// 9.1: once, at the first Next.
func TestSeq(t *testing.T) {
	a, b, c, _, _ := five()
	for _, l := range [][]api.Entry{nil, {a}, {c, a, a, b}} {
		begun, ended := 0, 0
		s := merge.Seq(counted(l, &begun, &ended))
		if begun != 0 {
			t.Fatal("gone through ahead of the first Next")
		}
		for i, want := range l {
			if e, more, err := s.Next(); !more || err != api.OK || !same(e, want) {
				t.Fatalf("%d of %q: %+v, %v, %d", i, names(l), e, more, err)
			}
		}
		mustEnd(t, names(l), s, api.OK)
		if begun != 1 || ended != 1 {
			t.Errorf("%q: begun %d times, ended %d times", names(l), begun, ended)
		}
	}
}

// 9.1
func TestSeqOfNil(t *testing.T) {
	s := merge.Seq(nil)
	if s == nil {
		t.Fatal("it is none")
	}
	mustEnd(t, "Seq(nil)", s, api.OK)
	got, err := merge.Take(newMerge(t, s, merge.Seq(nil)), 3)
	mustTell(t, "a merge of such", got, err, nil, api.OK)
}

// 9.1: what s gives is what it gives at the first Next, not what it would have given earlier.
func TestSeqOfATable(t *testing.T) {
	a, b, c, d, _ := five()
	x := mem.New()
	s := merge.Seq(x.All())
	for _, e := range []api.Entry{c, a, b} {
		x.Add(e)
	}
	got, err := merge.Take(s, 1)
	mustTell(t, "the first", got, err, []api.Entry{a}, api.OK)
	x.Add(d)
	got, err = merge.Take(s, 9)
	mustTell(t, "the others", got, err, []api.Entry{b, c}, api.OK)
}

// 9.2
func TestTake(t *testing.T) {
	a, b, c, d, _ := five()
	for _, end := range []api.Errno{api.OK, api.ErrBroken, api.ErrClosed} {
		for n := -2; n < 8; n++ {
			p := &player{script: script{[]api.Entry{c, a, b, b, d}, end}}
			want, wantErr, asked := p.l, end, 6
			if n <= 5 {
				want, wantErr, asked = p.l[:max(n, 0)], api.OK, max(n, 0)
			}
			got, err := merge.Take(p, n)
			mustTell(t, "Take", got, err, want, wantErr)
			if p.asked != asked {
				t.Errorf("Take of %d: asked %d times, not %d", n, p.asked, asked)
			}
		}
	}
	got, err := merge.Take(&player{script: script{[]api.Entry{a, b}, api.ErrDown}}, math.MaxInt)
	mustTell(t, "as many as there can be", got, err, []api.Entry{a, b}, api.ErrDown)
	got, err = merge.Take(merge.Of(a), math.MinInt)
	mustTell(t, "fewer than none", got, err, nil, api.OK)
}

// 9.2: no source is told ahead of whether any is asked for.
func TestTakeOfNone(t *testing.T) {
	for _, n := range []int{math.MinInt, -1, 0, 1, math.MaxInt} {
		got, err := merge.Take(nil, n)
		mustTell(t, "Take(nil, n)", got, err, nil, api.ErrSource)
	}
}

// 9.2: piece by piece it is all, and nothing is passed over.
func TestTakeGoesOn(t *testing.T) {
	r := rand.New(rand.NewSource(92))
	for range 300 {
		p := &player{}
		for range r.Intn(30) {
			p.l = append(p.l, one(r))
		}
		var got []api.Entry
		for len(got) < len(p.l) {
			n := 1 + r.Intn(5)
			more, err := merge.Take(p, n)
			if err != api.OK || len(more) != min(n, len(p.l)-len(got)) {
				t.Fatalf("Take of %d: %d, %d", n, len(more), err)
			}
			got = append(got, more...)
		}
		mustTell(t, "all pieces", got, api.OK, p.l, api.OK)
		mustEnd(t, "behind them", p, api.OK)
	}
}

// untidy answers what a source should not: an entry beside its error, or beside its end.
type untidy struct {
	more bool
	err  api.Errno
}

func (u untidy) Next() (api.Entry, bool, api.Errno) { return put("u", 1), u.more, u.err }

// 9.2, 9.4, 9.5: an error is an error, and an end an end, whatever comes beside it.
func TestUntidySources(t *testing.T) {
	a, _, _, _, _ := five()
	for _, u := range []untidy{{true, api.ErrBroken}, {false, api.ErrBroken}, {false, api.OK}} {
		got, err := merge.Take(u, 3)
		mustTell(t, "Take", got, err, nil, u.err)
		m := newMerge(t, u)
		mustEnd(t, "New", m, u.err)
		want := []api.Entry{a}
		if u.err != api.OK {
			want = nil
		}
		got, err = merge.Side(nil, 3, merge.Of(a), u)
		mustTell(t, "Side", got, err, want, u.err)
	}
}

// thrower panics behind some entries.
type thrower struct{ player }

func (p *thrower) Next() (api.Entry, bool, api.Errno) {
	if p.at == len(p.l) {
		p.asked++
		panic("thrown")
	}
	return p.player.Next()
}

// 9.6: no call panics, whatever a source does; what panics is no source.
func TestSourcesThatPanic(t *testing.T) {
	a, b, c, d, _ := five()
	throw := func(l ...api.Entry) *thrower { return &thrower{player{script: script{l: l}}} }
	got, err := merge.Take(throw(a, b), 9)
	mustTell(t, "Take", got, err, []api.Entry{a, b}, api.ErrSource)
	bad := throw(b)
	m := newMerge(t, merge.Of(a, c, d), bad)
	got, err = merge.Take(m, 9)
	mustTell(t, "New", got, err, []api.Entry{a, b}, api.ErrSource)
	mustEnd(t, "New", m, api.ErrSource)
	if bad.asked != 2 {
		t.Errorf("asked %d times", bad.asked)
	}
	got, err = merge.Side(nil, 9, merge.Of(a, c, d), throw(b))
	mustTell(t, "Side", got, err, []api.Entry{a, b}, api.ErrSource)
	var none *merge.Merge
	got, err = merge.Side(nil, 9, merge.Of(a), none)
	mustTell(t, "Side of a nil merge", got, err, nil, api.ErrSource)
	s := merge.Seq(func(yield func(api.Entry) bool) {
		yield(a)
		yield(b)
		panic("thrown")
	})
	for _, want := range []api.Entry{a, b} {
		if e, more, err := s.Next(); !more || err != api.OK || !same(e, want) {
			t.Errorf("Seq: %+v, %v, %d", e, more, err)
		}
	}
	mustEnd(t, "Seq", s, api.ErrSource)
}

// 9.4, 9.7: cursors of runs and a table's range are sources, with the rest of them.
func TestOfRunsAndATable(t *testing.T) {
	r := rand.New(rand.NewSource(94))
	var all []api.Entry
	x := mem.New()
	sources := []merge.Source{merge.Seq(x.All())}
	for k := range 4 {
		var part []api.Entry
		for i := range 200 {
			part = append(part, put("row"+string(letters(r, 3)), 1000*k+i))
		}
		all = append(all, part...)
		slices.SortFunc(part, compareByKey)
		if k == 0 {
			for _, e := range part {
				x.Add(e)
			}
			continue
		}
		b, err := run.Write(api.RunOpts{Block: 256, Bits: 10, Index: 1000, Low: 0, Clock: 5}, part...)
		if err != api.OK {
			t.Fatalf("Write: %d", err)
		}
		o, err := run.Open(b)
		if err != api.OK {
			t.Fatalf("Open: %d", err)
		}
		sources = append(sources, o.All())
	}
	slices.SortFunc(all, compareByKey)
	got, err := merge.Take(newMerge(t, sources...), math.MaxInt)
	mustTell(t, "all", got, err, all, api.OK)
}
