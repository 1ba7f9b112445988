package retain_test

import (
	"bytes"
	"math"
	"math/rand"
	"slices"
	"sync"
	"testing"

	"strata/api"
	"strata/cell"
	"strata/retain"
)

// roomy is b with spare room behind it that can be looked at.
func roomy(b []byte) []byte {
	whole := slices.Concat(b, bytes.Repeat([]byte{0xc3}, 16))
	return whole[:len(b)]
}

// deep is an entry with bytes of its own, spare room too.
func deep(e api.Entry) api.Entry {
	e.Row, e.Qual, e.Value = roomy(e.Row), roomy(e.Qual), roomy(e.Value)
	return e
}

// deepAll is a list with spare room of its own, in which an entry stands.
func deepAll(l []api.Entry) []api.Entry {
	out := make([]api.Entry, 0, len(l)+1)
	for _, e := range l {
		out = append(out, deep(e))
	}
	return append(out, deep(entry("put spare.7.room 1/1")))[:len(l)]
}

// wholes: the bytes of a list of entries with all spare room, in copies.
func wholes(l []api.Entry) [][]byte {
	var out [][]byte
	for _, e := range l[:cap(l)] {
		for _, b := range [][]byte{e.Row, e.Qual, e.Value} {
			out = append(out, bytes.Clone(b[:cap(b)]))
		}
	}
	return out
}

func invert(b []byte) {
	b = b[:cap(b)]
	for i := range b {
		b[i] = ^b[i]
	}
}

// scribble writes over all bytes of a list of entries and over the list, spare room too.
func scribble(l []api.Entry) {
	l = l[:cap(l)]
	for i, e := range l {
		invert(e.Row)
		invert(e.Qual)
		invert(e.Value)
		l[i] = api.Entry{Row: []byte("scribbled"), Fam: 3, Ts: 3, Seq: 3, Kind: 3}
	}
}

// copied is a list that shares nothing with l.
func copied(l []api.Entry) []api.Entry {
	var out []api.Entry
	for _, e := range l {
		e.Row, e.Qual, e.Value = bytes.Clone(e.Row), bytes.Clone(e.Qual), bytes.Clone(e.Value)
		out = append(out, e)
	}
	return out
}

// listCalls: the calls that answer lists, each on what d has drawn.
func (d drawn) listCalls() map[string]func(l []api.Entry) []api.Entry {
	first := func(l []api.Entry, _ api.Errno) []api.Entry { return l }
	return map[string]func(l []api.Entry) []api.Entry{
		"Sort":   func(l []api.Entry) []api.Entry { return first(retain.Sort(l...)) },
		"Vis":    func(l []api.Entry) []api.Entry { return first(retain.Vis(d.s, d.clock, l...)) },
		"Read":   func(l []api.Entry) []api.Entry { return first(retain.Read(d.s, d.clock, d.t, d.n, l...)) },
		"Squash": func(l []api.Entry) []api.Entry { return first(retain.Squash(d.s, d.clock, d.major, d.low, l...)) },
		"Top": func(l []api.Entry) []api.Entry {
			retain.Top(d.s, d.clock, l...)
			return nil
		},
	}
}

// 3.7
func TestAnswersAreNewMemory(t *testing.T) {
	r := rand.New(rand.NewSource(37))
	for range 300 {
		d := draw(r)
		l := d.doubled(r)
		for name, call := range d.listCalls() {
			in := deepAll(l)
			was, order := wholes(in), slices.Clone(in[:cap(in)])
			got := call(in)
			want := copied(got)
			mustShareNothing(t, name, got)
			scribble(call(in))
			if !sameLists(got, want) {
				t.Fatalf("%s: two answers share memory", name)
			}
			if !slices.EqualFunc(was, wholes(in), bytes.Equal) || !sameLists(order, in[:cap(in)]) {
				t.Fatalf("%s: what was handed in was changed", name)
			}
			scribble(in)
			if got = call(deepAll(l)); !sameLists(got, want) {
				t.Fatalf("%s: %s, at first %s", name, text(got), text(want))
			}
		}
	}
}

// mustShareNothing writes over each list of an answer, and looks at all others.
func mustShareNothing(t *testing.T, name string, l []api.Entry) {
	t.Helper()
	var all [][]byte
	for _, e := range l {
		all = append(all, e.Row, e.Qual, e.Value)
	}
	for i := range all {
		was := make([][]byte, len(all))
		for j := range all {
			was[j] = bytes.Clone(all[j])
		}
		invert(all[i])
		for j := range all {
			if j != i && !bytes.Equal(all[j], was[j]) {
				t.Fatalf("%s: two lists of one answer share memory", name)
			}
		}
		invert(all[i])
	}
}

// 3.7: an answer has nothing of what was handed in.
func TestAnswersOutliveWhatWasHandedIn(t *testing.T) {
	r := rand.New(rand.NewSource(307))
	for range 300 {
		d := draw(r)
		for name, call := range d.listCalls() {
			in := deepAll(d.l)
			got := call(in)
			want := copied(got)
			scribble(in)
			if !sameLists(got, want) {
				t.Fatalf("%s: the answer shares memory with what was handed in", name)
			}
		}
	}
}

// 3.7: a stream keeps nothing of what it is handed, and its answers are nothing that it needs.
func TestStreamsKeepNothing(t *testing.T) {
	r := rand.New(rand.NewSource(370))
	for range 500 {
		d := draw(r)
		s := api.Schema{Fams: append(slices.Clone(d.s.Fams), api.Family{Name: "spare", Max: 3})[:len(d.s.Fams)]}
		f := must[*retain.Filter](t)(retain.NewFilter(s, d.clock, d.major, d.low))
		p := must[*retain.Reader](t)(retain.NewReader(s, d.clock, d.t, d.n))
		for i := range s.Fams[:cap(s.Fams)] {
			s.Fams[:cap(s.Fams)][i] = api.Family{Name: "z", Max: 16}
		}
		for _, x := range []struct {
			p    pusher
			want []api.Entry
		}{{f, d.model().squash(d.major, d.low)}, {p, d.model().read(d.t, d.n)}} {
			var got []api.Entry
			take := func(l []api.Entry) {
				got = append(got, copied(l)...)
				mustShareNothing(t, "a stream", l)
				scribble(l)
			}
			for _, e := range again(r, inOrder(d.l)) {
				in := deepAll([]api.Entry{e})
				was := wholes(in)
				l, err := x.p.Push(in[0])
				if err != api.OK || !slices.EqualFunc(was, wholes(in), bytes.Equal) {
					t.Fatalf("%T: Push of %s: %d, or what was handed in was changed", x.p, text([]api.Entry{e}), err)
				}
				want := copied(l)
				scribble(in)
				if !sameLists(l, want) {
					t.Fatalf("%T: the answer shares memory with what was handed in", x.p)
				}
				take(l)
			}
			take(x.p.End())
			if !sameLists(got, x.want) {
				t.Fatalf("%T of %s: %s, want %s", x.p, text(d.l), text(got), text(x.want))
			}
		}
	}
}

// 3.7: what is answered stays as it is while the stream goes on.
func TestAnswersOfAStreamStay(t *testing.T) {
	r := rand.New(rand.NewSource(3007))
	for range 300 {
		d := draw(r)
		for _, p := range []pusher{d.filter(t), d.reader(t)} {
			var answers, were [][]api.Entry
			note := func(l []api.Entry) { answers, were = append(answers, l), append(were, copied(l)) }
			for _, e := range inOrder(d.l) {
				note(must[[]api.Entry](t)(p.Push(e)))
			}
			note(p.End())
			for i := range answers {
				if !sameLists(answers[i], were[i]) {
					t.Fatalf("%T: an answer was changed: %s, was %s", p, text(answers[i]), text(were[i]))
				}
			}
		}
	}
}

// 3.7: two streams have nothing in common, also side by side; nor have two calls.
func TestStreamsSideBySide(t *testing.T) {
	r := rand.New(rand.NewSource(30007))
	var all sync.WaitGroup
	d := draw(r)
	for len(d.model().read(d.t, d.n)) < 3 {
		d = draw(r)
	}
	l := inOrder(d.l)
	kept, read, dropped := d.model().squash(d.major, d.low), d.model().read(d.t, d.n), d.model().dropped(d.major, d.low)
	for range 8 {
		f, p := d.filter(t), d.reader(t)
		all.Go(func() {
			var a, b []api.Entry
			for _, e := range l {
				x, e1 := f.Push(e)
				y, e2 := p.Push(e)
				if e1 != api.OK || e2 != api.OK {
					t.Errorf("Push: %d, %d", e1, e2)
				}
				a, b = append(a, x...), append(b, y...)
			}
			a, b = append(a, f.End()...), append(b, p.End()...)
			if !sameLists(a, kept) || !sameLists(b, read) || f.Dropped() != dropped {
				t.Errorf("side by side: %s; %s; %+v", text(a), text(b), f.Dropped())
			}
			if v, err := retain.Squash(d.s, d.clock, d.major, d.low, l...); !sameLists(v, kept) || err != api.OK {
				t.Errorf("side by side: Squash %s, %d", text(v), err)
			}
		})
	}
	all.Wait()
}

// 3.7: no call panics, and each one ends, whatever it is given; with an error there is nothing beside it.
func TestWhateverIsGiven(t *testing.T) {
	r := rand.New(rand.NewSource(377))
	numbers := []int{math.MinInt, -1, 0, 1, 2, 3, 4, 5, 6, 7, 8, 16, 17, api.MaxTime, api.MaxTime + 1, api.MaxSeq, math.MaxInt}
	number := func() int { return numbers[r.Intn(len(numbers))] }
	// small is right more often than not, so that calls get beyond their first look.
	small := func() int {
		if r.Intn(12) == 0 {
			return number()
		}
		return 1 + r.Intn(2)
	}
	text := func() []byte { return bytes.Repeat([]byte{"\x00a\xff"[r.Intn(3)]}, r.Intn(3)) }
	draw := func() api.Entry {
		e := api.Entry{Row: append(text(), 'r'), Fam: small(), Qual: text(), Ts: small(), Seq: r.Intn(20), Kind: 1 + r.Intn(5)}
		if r.Intn(20) == 0 {
			e = api.Entry{Row: text(), Fam: number(), Qual: text(), Ts: number(), Seq: number(), Kind: number(), Value: text()}
		}
		return e
	}
	for range 20000 {
		s := api.Schema{Fams: []api.Family{{Name: "a", Max: small(), TTL: small()}, {Name: "b", Max: small()}, {Name: "c", Max: 1}}}
		clock, low, at, n := small(), small(), small(), small()
		var l []api.Entry
		for range r.Intn(6) {
			l = append(l, draw())
		}
		if got, err := retain.Sort(l...); err != api.OK && got != nil {
			t.Fatal("Sort answers beside an error")
		}
		ask{s, clock, low, at, n, l}.agree(t)
		f, err := retain.NewFilter(s, clock, n == 1, low)
		p, err2 := retain.NewReader(s, clock, at, n)
		if (f == nil) != (err != api.OK) || (p == nil) != (err2 != api.OK) {
			t.Fatal("a stream beside an error, or none beside OK")
		}
		if f == nil || p == nil {
			continue
		}
		var last []api.Entry
		for _, e := range l {
			a, e1 := f.Push(e)
			b, e2 := p.Push(e)
			if want := pushError(s, last, e); e1 != want || e2 != want || want != api.OK && (a != nil || b != nil) {
				t.Fatalf("Push of %+v behind %+v: %d, %d, want %d", e, last, e1, e2, want)
			}
			if e1 == api.OK {
				last = []api.Entry{e}
			}
		}
		f.End()
		p.End()
	}
}

// pushError is what 3.4 says of a Push of e behind what was pushed last.
func pushError(s api.Schema, last []api.Entry, e api.Entry) api.Errno {
	if err := cell.Check(e); err != api.OK {
		return err
	}
	if e.Fam >= len(s.Fams) {
		return api.ErrFam
	}
	for _, l := range last {
		switch c := cell.Compare(e, l); {
		case c < 0:
			return api.ErrOrder
		case e.Seq == l.Seq && !same(e, l):
			return api.ErrTwice
		}
	}
	return api.OK
}

// agree: the calls tell the same fault of the entries, and nothing beside a fault.
func (a ask) agree(t *testing.T) {
	t.Helper()
	vis, err := retain.Vis(a.s, a.clock, a.l...)
	top, err2 := retain.Top(a.s, a.clock, a.l...)
	if err != err2 || err != api.OK && (vis != nil || top != 0) {
		t.Fatalf("%+v: Vis %d, Top %d", a, err, err2)
	}
	read, err3 := retain.Read(a.s, a.clock, a.t, a.n, a.l...)
	squash, err4 := retain.Squash(a.s, a.clock, a.n > 1, a.low, a.l...)
	if err3 != api.ErrTimes && err3 != err || err4 != api.ErrTimes && err4 != err {
		t.Fatalf("%+v: Vis %d, Read %d, Squash %d", a, err, err3, err4)
	}
	if err3 != api.OK && read != nil || err4 != api.OK && squash != nil {
		t.Fatalf("%+v: an answer beside an error", a)
	}
}
