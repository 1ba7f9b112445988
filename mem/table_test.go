package mem_test

import (
	"iter"
	"math"
	"math/rand"
	"slices"
	"testing"

	"strata/api"
	"strata/cell"
	"strata/mem"
)

// The chapter's examples, in turn.
func TestExamples(t *testing.T) {
	a, b, c, d := four()
	x := tableOf(t, b, c, a)
	if err := x.Add(with(a, func(e *api.Entry) { e.Value = []byte("w") })); err != api.ErrThere {
		t.Errorf("a with another value: %d", err)
	}
	if err := x.Add(put("", 5)); err != api.ErrRow {
		t.Errorf("a without a row: %d", err)
	}
	mustGive(t, "All", x.All(), a, b, c)
	mustGive(t, "From(b)", x.From(b), b, c)
	mustGive(t, "From(a with Ts 9)", x.From(put("r", 9)), a, b, c)
	mustGive(t, "From(the zero entry)", x.From(api.Entry{}), a, b, c)
	mustGive(t, "From(c with Row t)", x.From(put("t", 5)))
	mustGive(t, "a range with an Add", doingAt(x.All(), 0, func() { mustAdd(t, x, d) }), a, b, c)
	mustGive(t, "All behind it", x.All(), a, b, d, c)
	x.Freeze()
	if err := x.Add(put("r", 2)); err != api.ErrFrozen {
		t.Errorf("frozen: %d", err)
	}
	if err := x.Add(put("", 5)); err != api.ErrRow {
		t.Errorf("frozen, and without a row: %d", err)
	}
	if x.Len() != 4 {
		t.Errorf("Len: %d", x.Len())
	}
}

// doingAt is a range in whose loop something is done at the entry of that number.
func doingAt(s iter.Seq[api.Entry], n int, do func()) iter.Seq[api.Entry] {
	return func(yield func(api.Entry) bool) {
		i := 0
		for e := range s {
			if i == n {
				do()
			}
			i++
			if !yield(e) {
				return
			}
		}
	}
}

// 8.1
func TestNew(t *testing.T) {
	x, y := mem.New(), mem.New()
	if x == nil || y == nil || x == y {
		t.Fatalf("%p, %p", x, y)
	}
	for _, z := range []*mem.Table{x, y} {
		if z.Len() != 0 || z.Bytes() != 0 || z.Frozen() {
			t.Errorf("Len %d, Bytes %d, Frozen %v", z.Len(), z.Bytes(), z.Frozen())
		}
		mustGive(t, "All of nothing", z.All())
		mustGive(t, "From of nothing", z.From(api.Entry{}))
	}
	a, b, _, _ := four()
	mustAdd(t, x, a)
	mustBe(t, y, nil)
	mustAdd(t, y, a, b)
	x.Freeze()
	if y.Frozen() || y.Len() != 2 || x.Len() != 1 {
		t.Error("two tables have something in common")
	}
	mustGive(t, "the first one", x.All(), a)
	mustGive(t, "the second one", y.All(), a, b)
}

// 8.2, 8.3: against the model, with many entries that are there already, and wrong ones among them.
func TestAddOfMany(t *testing.T) {
	r := rand.New(rand.NewSource(82))
	faults := wrong()
	for range 60 {
		x := mem.New()
		var m model
		for range r.Intn(160) {
			e, want := one(r), api.OK
			if r.Intn(5) == 0 {
				f := faults[r.Intn(len(faults))]
				e, want = f.e, f.err
			} else if next, fresh := m.add(t, e); fresh {
				m = next
			} else {
				want = api.ErrThere
			}
			if err := x.Add(e); err != want {
				t.Fatalf("Add(%+v): %d, want %d", e, err, want)
			}
			if x.Len() != len(m) {
				t.Fatalf("Len: %d, want %d", x.Len(), len(m))
			}
		}
		mustBe(t, x, m)
	}
}

type fault struct {
	e   api.Entry
	err api.Errno
}

// wrong are entries that cell.Check refuses, one for each thing that it looks at.
func wrong() []fault {
	a, _, _, _ := four()
	return []fault{
		{with(a, func(e *api.Entry) { e.Row = nil }), api.ErrRow},
		{with(a, func(e *api.Entry) { e.Row = long(257) }), api.ErrRow},
		{with(a, func(e *api.Entry) { e.Fam = -1 }), api.ErrFam},
		{with(a, func(e *api.Entry) { e.Fam = 8 }), api.ErrFam},
		{with(a, func(e *api.Entry) { e.Qual = long(257) }), api.ErrQual},
		{with(a, func(e *api.Entry) { e.Kind, e.Value = api.KFam, nil }), api.ErrQual},
		{with(a, func(e *api.Entry) { e.Ts = 0 }), api.ErrTs},
		{with(a, func(e *api.Entry) { e.Ts = 1<<40 + 1 }), api.ErrTs},
		{with(a, func(e *api.Entry) { e.Seq = -1 }), api.ErrSeq},
		{with(a, func(e *api.Entry) { e.Seq = 1<<44 + 16 }), api.ErrSeq},
		{with(a, func(e *api.Entry) { e.Kind = 0 }), api.ErrKind},
		{with(a, func(e *api.Entry) { e.Kind = 6 }), api.ErrKind},
		{with(a, func(e *api.Entry) { e.Value = long(4097) }), api.ErrValue},
		{with(a, func(e *api.Entry) { e.Kind = api.KCell }), api.ErrValue},
	}
}

// 8.2: the first reason refuses, and nothing is changed.
func TestAddRefuses(t *testing.T) {
	a, b, _, d := four()
	var m model
	m, _ = m.add(t, a)
	m, _ = m.add(t, b)
	x := tableOf(t, b, a)
	for i, f := range wrong() {
		if err := x.Add(f.e); err != f.err {
			t.Errorf("%d: %d, want %d", i, err, f.err)
		}
		mustBe(t, x, m)
	}
	for i, e := range []api.Entry{
		a, b,
		with(a, func(e *api.Entry) { e.Value = nil }),
		with(b, func(e *api.Entry) { e.Value = long(4096) }),
	} {
		if err := x.Add(e); err != api.ErrThere {
			t.Errorf("%d: there already: %d", i, err)
		}
		mustBe(t, x, m)
	}
	x.Freeze()
	for i, f := range wrong() {
		if err := x.Add(f.e); err != f.err {
			t.Errorf("%d, frozen: %d, want %d", i, err, f.err)
		}
	}
	for i, e := range []api.Entry{a, b, d} {
		if err := x.Add(e); err != api.ErrFrozen {
			t.Errorf("%d, frozen: %d", i, err)
		}
	}
	mustBe(t, x, m)
}

// 8.2: entries that differ in anything but the Value are several.
func TestAddTakesNeighbours(t *testing.T) {
	a, _, _, _ := four()
	bare := with(a, func(e *api.Entry) { e.Value = nil })
	l := []api.Entry{
		a,
		with(a, func(e *api.Entry) { e.Row = []byte("r\x00") }),
		with(a, func(e *api.Entry) { e.Row = long(256) }),
		with(a, func(e *api.Entry) { e.Fam = 7 }),
		with(a, func(e *api.Entry) { e.Qual = nil }),
		with(a, func(e *api.Entry) { e.Qual = long(256) }),
		with(a, func(e *api.Entry) { e.Ts = 1 }),
		with(a, func(e *api.Entry) { e.Ts = 1 << 40 }),
		with(a, func(e *api.Entry) { e.Seq, e.Value = 0, long(4096) }),
		with(a, func(e *api.Entry) { e.Seq, e.Value = 1<<44+15, nil }),
		with(bare, func(e *api.Entry) { e.Kind = api.KHusk }),
		with(bare, func(e *api.Entry) { e.Kind = api.KCell }),
		with(bare, func(e *api.Entry) { e.Kind = api.KCol }),
		with(bare, func(e *api.Entry) { e.Kind, e.Qual = api.KFam, nil }),
	}
	var m model
	for _, e := range l {
		m, _ = m.add(t, e)
	}
	mustBe(t, tableOf(t, l...), m)
	if len(m) != len(l) {
		t.Errorf("%d of %d", len(m), len(l))
	}
}

// 8.3
func TestBytes(t *testing.T) {
	a, _, _, _ := four()
	x := tableOf(t, a)
	packed, _ := cell.Pack(a)
	if x.Bytes() != len(packed) {
		t.Errorf("one: %d, want %d", x.Bytes(), len(packed))
	}
	sum := len(packed)
	for i, n := range []int{0, 1, 127, 128, 4096} {
		e := with(a, func(e *api.Entry) { e.Seq, e.Value = 100+i, long(n) })
		mustAdd(t, x, e)
		packed, _ := cell.Pack(e)
		sum += len(packed)
		if x.Bytes() != sum || x.Len() != i+2 {
			t.Errorf("with %d more: %d, %d, want %d", i+1, x.Bytes(), x.Len(), sum)
		}
	}
}

// 8.4
func TestFreeze(t *testing.T) {
	a, b, c, d := four()
	var m model
	for _, e := range []api.Entry{a, b, c} {
		m, _ = m.add(t, e)
	}
	x := tableOf(t, a, b, c)
	ahead, from := x.All(), x.From(b)
	for range 3 {
		x.Freeze()
		if !x.Frozen() {
			t.Fatal("not frozen")
		}
		if err := x.Add(d); err != api.ErrFrozen {
			t.Fatalf("Add: %d", err)
		}
		mustBe(t, x, m)
		mustGive(t, "From", x.From(b), b, c)
		mustGive(t, "All from ahead of it", ahead, a, b, c)
		mustGive(t, "From from ahead of it", from, b, c)
	}
	empty := mem.New()
	empty.Freeze()
	if err := empty.Add(a); err != api.ErrFrozen || !empty.Frozen() {
		t.Errorf("an empty table: %d", err)
	}
	mustBe(t, empty, nil)
}

// 8.4, 8.5: frozen within a loop, the range goes on.
func TestFreezeWithinALoop(t *testing.T) {
	a, b, c, d := four()
	x := tableOf(t, a, b, c)
	freeze := func() {
		x.Freeze()
		if err := x.Add(d); err != api.ErrFrozen {
			t.Errorf("Add: %d", err)
		}
	}
	mustGive(t, "All", doingAt(x.All(), 1, freeze), a, b, c)
}

// 8.5: from each entry, from between them, from ahead of all and from behind all.
func TestFrom(t *testing.T) {
	r := rand.New(rand.NewSource(85))
	for range 30 {
		l, m := draw(t, r, r.Intn(60))
		x := tableOf(t, l...)
		for _, e := range l {
			mustGive(t, "From of one", x.From(e), m.notAhead(e)...)
			e.Value = long(9)
			mustGive(t, "From of one with another Value", x.From(e), m.notAhead(e)...)
		}
		for range 60 {
			e := one(r)
			mustGive(t, "From", x.From(e), m.notAhead(e)...)
		}
	}
}

// 8.5: e may be any values.
func TestFromWhatIsNoEntry(t *testing.T) {
	r := rand.New(rand.NewSource(86))
	wild := []int{math.MinInt, -1, 0, 1, 2, 3, 5, 6, 1 << 45, math.MaxInt}
	pick := func() int { return wild[r.Intn(len(wild))] }
	l, m := draw(t, r, 80)
	x := tableOf(t, l...)
	for range 4000 {
		e := l[r.Intn(len(l))]
		for range 1 + r.Intn(3) {
			switch r.Intn(6) {
			case 0:
				e.Row = letters(r, r.Intn(3)*r.Intn(200))
			case 1:
				e.Fam = pick()
			case 2:
				e.Qual = letters(r, r.Intn(3)*r.Intn(200))
			case 3:
				e.Ts = pick()
			case 4:
				e.Seq = pick()
			case 5:
				e.Kind = pick()
			}
		}
		mustGive(t, "From", x.From(e), m.notAhead(e)...)
	}
	mustGive(t, "From the zero entry", x.From(api.Entry{}), m.entries()...)
	mustGive(t, "From a long row", x.From(api.Entry{Row: long(100000)}), m.notAhead(api.Entry{Row: long(100000)})...)
	mustBe(t, x, m)
}

// 8.5: a range gives what stood there when it began, whatever is added at whichever of its entries.
func TestAddWithinALoop(t *testing.T) {
	r := rand.New(rand.NewSource(87))
	for range 300 {
		n := 1 + r.Intn(25)
		l, whole := draw(t, r, n+20)
		var m model
		for _, e := range l[:n] {
			m, _ = m.add(t, e)
		}
		x := tableOf(t, l[:n]...)
		s, want := x.All(), m.entries()
		if r.Intn(2) == 0 {
			first := l[r.Intn(n)]
			s, want = x.From(first), m.notAhead(first)
		}
		more := func() { mustAdd(t, x, l[n:]...) }
		mustGive(t, "the range", doingAt(s, r.Intn(len(want)), more), want...)
		mustBe(t, x, whole)
	}
}

// 8.5: one Add at each entry, always ahead of it and always behind it: neither makes the range longer.
func TestAddAtEachEntry(t *testing.T) {
	for _, step := range []int{-1, 1} {
		x := mem.New()
		for ts := 10; ts <= 100; ts += 10 {
			mustAdd(t, x, put("r", ts))
		}
		given := 0
		for e := range x.All() {
			given++
			mustAdd(t, x, put("r", e.Ts+step))
		}
		if given != 10 || x.Len() != 20 {
			t.Errorf("%d: %d given, %d in all", step, given, x.Len())
		}
	}
}

// 8.5: what From and All answer can be ranged over again, and gives what is there then.
func TestRangeAgain(t *testing.T) {
	a, b, c, d := four()
	x := mem.New()
	all, from := x.All(), x.From(b)
	mustGive(t, "All of nothing", all)
	mustGive(t, "From of nothing", from)
	mustAdd(t, x, c, a)
	mustGive(t, "All", all, a, c)
	mustGive(t, "From", from, c)
	mustGive(t, "All, once more", all, a, c)
	mustAdd(t, x, b, d)
	mustGive(t, "All, later", all, a, b, d, c)
	mustGive(t, "From, later", from, b, d, c)
	x.Freeze()
	mustGive(t, "All, frozen", all, a, b, d, c)
	mustGive(t, "From, frozen", from, b, d, c)
}

// 8.5: within its own loop each range has its own beginning.
func TestRangeWithinItsOwnLoop(t *testing.T) {
	a, b, c, d := four()
	for _, answer := range []func(x *mem.Table) iter.Seq[api.Entry]{
		func(x *mem.Table) iter.Seq[api.Entry] { return x.All() },
		func(x *mem.Table) iter.Seq[api.Entry] { return x.From(a) },
	} {
		x := tableOf(t, a, c)
		s := answer(x)
		more := []api.Entry{b, d}
		want := []api.Entry{a, c}
		var outer []api.Entry
		for e := range s {
			outer = append(outer, e)
			mustGive(t, "within", s, want...)
			mustAdd(t, x, more[0])
			want = slices.Insert(slices.Clone(want), len(want)-1, more[0])
			more = more[1:]
			mustGive(t, "within, behind an Add", s, want...)
		}
		if !sameAll(outer, []api.Entry{a, c}) {
			t.Errorf("the outer range: %+v", outer)
		}
		mustGive(t, "behind it", s, a, b, d, c)
	}
}

// 8.5: a range may be left at any entry, and gives nothing from there on.
func TestLeaveEarly(t *testing.T) {
	l, m := draw(t, rand.New(rand.NewSource(88)), 40)
	x := tableOf(t, l...)
	for _, s := range []iter.Seq[api.Entry]{x.All(), x.From(m[0].entry), x.From(api.Entry{})} {
		for n := range len(m) {
			given := 0
			s(func(e api.Entry) bool {
				if !same(e, m[given].entry) {
					t.Fatalf("%d: %+v", given, e)
				}
				given++
				return given <= n
			})
			if given != n+1 {
				t.Fatalf("left at %d, but %d were given", n, given)
			}
		}
	}
	mustBe(t, x, m)
}

// 8.5: a range may also be gone through step by step, and be left there.
func TestPulled(t *testing.T) {
	a, b, c, d := four()
	x := tableOf(t, a, b, c)
	next, stop := iter.Pull(x.All())
	defer stop()
	if e, more := next(); !more || !same(e, a) {
		t.Fatalf("%+v, %v", e, more)
	}
	mustAdd(t, x, d)
	for _, want := range []api.Entry{b, c} {
		if e, more := next(); !more || !same(e, want) {
			t.Errorf("%+v, %v", e, more)
		}
	}
	if e, more := next(); more {
		t.Errorf("one more: %+v", e)
	}
}

// 8.6: all orders of six entries, with an Add that is refused behind each.
func TestInWhateverOrder(t *testing.T) {
	l, m := draw(t, rand.New(rand.NewSource(89)), 6)
	orders := 0
	for order := range permutations(l) {
		orders++
		x := mem.New()
		for i, e := range order {
			mustAdd(t, x, e)
			if err := x.Add(order[i/2]); err != api.ErrThere {
				t.Fatalf("there already: %d", err)
			}
		}
		mustBe(t, x, m)
	}
	if orders != 720 {
		t.Errorf("%d orders", orders)
	}
}

// permutations gives all orders of a list.
func permutations(l []api.Entry) iter.Seq[[]api.Entry] {
	return func(yield func([]api.Entry) bool) {
		if len(l) == 0 {
			yield(nil)
			return
		}
		for i := range l {
			rest := slices.Concat(l[:i], l[i+1:])
			for order := range permutations(rest) {
				if !yield(append(order, l[i])) {
					return
				}
			}
		}
	}
}

// 8.6: greater tables, shuffled; and each beginning is whole.
func TestShuffled(t *testing.T) {
	r := rand.New(rand.NewSource(90))
	for range 20 {
		l, whole := draw(t, r, 150)
		r.Shuffle(len(l), func(i, j int) { l[i], l[j] = l[j], l[i] })
		x := mem.New()
		var m model
		for _, e := range l {
			m, _ = m.add(t, e)
			mustAdd(t, x, e)
			mustBe(t, x, m)
		}
		mustBe(t, x, whole)
	}
}
