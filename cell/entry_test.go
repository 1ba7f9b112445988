package cell_test

import (
	"bytes"
	"math"
	"math/rand"
	"testing"

	"strata/api"
	"strata/cell"
)

// base is the entry that the examples of the chapter turn about.
func base() api.Entry {
	return api.Entry{Row: []byte("r"), Fam: 1, Qual: []byte("q"), Ts: 5, Seq: 32, Kind: api.KPut, Value: []byte("v")}
}

func with(changes ...func(*api.Entry)) api.Entry {
	e := base()
	for _, change := range changes {
		change(&e)
	}
	return e
}

func row(s string) func(*api.Entry)   { return func(e *api.Entry) { e.Row = []byte(s) } }
func fam(n int) func(*api.Entry)      { return func(e *api.Entry) { e.Fam = n } }
func qual(s string) func(*api.Entry)  { return func(e *api.Entry) { e.Qual = []byte(s) } }
func ts(n int) func(*api.Entry)       { return func(e *api.Entry) { e.Ts = n } }
func seq(n int) func(*api.Entry)      { return func(e *api.Entry) { e.Seq = n } }
func kind(n int) func(*api.Entry)     { return func(e *api.Entry) { e.Kind = n } }
func value(s string) func(*api.Entry) { return func(e *api.Entry) { e.Value = []byte(s) } }

func long(n int) string { return string(bytes.Repeat([]byte{'x'}, n)) }

func same(a, b api.Entry) bool {
	return bytes.Equal(a.Row, b.Row) && a.Fam == b.Fam && bytes.Equal(a.Qual, b.Qual) &&
		a.Ts == b.Ts && a.Seq == b.Seq && a.Kind == b.Kind && bytes.Equal(a.Value, b.Value)
}

func empty(e api.Entry) bool { return same(e, api.Entry{}) }

// 2.1
func TestCheckTakes(t *testing.T) {
	for i, e := range []api.Entry{
		base(),
		with(row("x")), with(row("\x00")), with(row(long(256))),
		with(fam(0)), with(fam(7)),
		with(qual("")), with(qual(long(256))), with(qual(""), value("")),
		with(ts(1)), with(ts(1 << 40)),
		with(seq(0)), with(seq(1<<44 + 15)),
		with(value("")), with(value(long(4096))),
		with(kind(api.KHusk), value("")), with(kind(api.KCell), value("")), with(kind(api.KCol), value("")),
		with(kind(api.KCol), qual(""), value("")),
		with(kind(api.KFam), qual(""), value("")),
	} {
		if err := cell.Check(e); err != api.OK {
			t.Errorf("%d: Check = %d", i, err)
		}
	}
}

// wrong: what Check refuses, and why.
func wrong() []struct {
	e   api.Entry
	err api.Errno
} {
	type fault = struct {
		e   api.Entry
		err api.Errno
	}
	l := []fault{
		{with(row("")), api.ErrRow}, {with(row(long(257))), api.ErrRow},
		{with(fam(-1)), api.ErrFam}, {with(fam(8)), api.ErrFam}, {with(fam(257)), api.ErrFam},
		{with(fam(math.MinInt)), api.ErrFam}, {with(fam(math.MaxInt)), api.ErrFam},
		{with(qual(long(257))), api.ErrQual}, {with(kind(api.KFam)), api.ErrQual}, {with(kind(api.KFam), value("")), api.ErrQual},
		{with(ts(0)), api.ErrTs}, {with(ts(-1)), api.ErrTs}, {with(ts(1<<40 + 1)), api.ErrTs}, {with(ts(math.MinInt)), api.ErrTs},
		{with(seq(-1)), api.ErrSeq}, {with(seq(1<<44 + 16)), api.ErrSeq}, {with(seq(math.MaxInt)), api.ErrSeq},
		{with(kind(0)), api.ErrKind}, {with(kind(6)), api.ErrKind}, {with(kind(-1)), api.ErrKind}, {with(kind(257)), api.ErrKind},
		{with(value(long(4097))), api.ErrValue}, {with(kind(api.KFam), qual("")), api.ErrValue},
	}
	for _, k := range []int{api.KHusk, api.KCell, api.KCol} {
		l = append(l, fault{with(kind(k)), api.ErrValue})
	}
	return l
}

// 2.1, and the errors of 2.3 and 2.6
func TestCheckRefuses(t *testing.T) {
	for i, x := range wrong() {
		if err := cell.Check(x.e); err != x.err {
			t.Errorf("%d: Check = %d, want %d", i, err, x.err)
		}
		if k, err := cell.Key(x.e); len(k) != 0 || err != x.err {
			t.Errorf("%d: Key = % x, %d, want %d", i, k, err, x.err)
		}
		if p, err := cell.Pack(x.e); len(p) != 0 || err != x.err {
			t.Errorf("%d: Pack = % x, %d, want %d", i, p, err, x.err)
		}
	}
}

// 2.1: of several faults the first one is told.
func TestCheckTellsTheFirstFault(t *testing.T) {
	faults := []struct {
		change func(*api.Entry)
		err    api.Errno
	}{
		{row(""), api.ErrRow}, {fam(8), api.ErrFam}, {qual(long(257)), api.ErrQual}, {ts(0), api.ErrTs},
		{seq(-1), api.ErrSeq}, {kind(9), api.ErrKind}, {value(long(4097)), api.ErrValue},
	}
	for mask := 1; mask < 1<<len(faults); mask++ {
		e, want := base(), api.OK
		for i, f := range faults {
			if mask>>i&1 == 1 {
				f.change(&e)
				if want == api.OK {
					want = f.err
				}
			}
		}
		if err := cell.Check(e); err != want {
			t.Errorf("faults %b: Check = %d, want %d", mask, err, want)
		}
	}
	if err := cell.Check(with(kind(api.KFam), ts(0))); err != api.ErrQual {
		t.Errorf("a family's tombstone with a qualifier and no time: %d", err)
	}
}

// 2.2
func TestCompareParts(t *testing.T) {
	a := base()
	for i, x := range []struct {
		b    api.Entry
		want int
	}{
		{a, 0}, {with(value("w")), 0}, {with(value("")), 0},
		{with(row("ra")), -1}, {with(row("q\xff")), 1}, {with(row("\xff")), -1}, {with(row("")), 1}, {with(row("r\x00")), -1},
		{with(fam(2)), -1}, {with(fam(0)), 1},
		{with(kind(api.KFam)), 1}, {with(kind(api.KFam), qual("")), 1}, {with(kind(api.KFam), qual("z")), 1},
		{with(qual("")), 1}, {with(qual("qa")), -1}, {with(qual("\x80")), -1},
		{with(kind(api.KCol)), 1}, {with(kind(api.KCol), ts(9)), 1}, {with(kind(api.KCol), ts(1), seq(0)), 1},
		{with(kind(api.KCol), qual("r")), -1},
		{with(ts(6)), 1}, {with(ts(4)), -1}, {with(ts(4), seq(99)), -1},
		{with(seq(33)), 1}, {with(seq(31)), -1}, {with(seq(31), kind(0)), -1},
		{with(kind(api.KHusk)), -1}, {with(kind(api.KCell)), -1}, {with(kind(0)), 1}, {with(kind(9)), -1},
	} {
		if got := cell.Compare(a, x.b); got != x.want {
			t.Errorf("%d: Compare(a, b) = %d, want %d", i, got, x.want)
		}
		if got := cell.Compare(x.b, a); got != -x.want {
			t.Errorf("%d: Compare(b, a) = %d, want %d", i, got, -x.want)
		}
	}
}

// 2.2: the earlier of two that part entries decides, whatever the later ones say.
func TestCompareTheFirstPartDecides(t *testing.T) {
	ahead := []func(*api.Entry){row("a"), fam(0), kind(api.KFam), qual("a"), kind(api.KCol), ts(6), seq(33), kind(0)}
	behind := []func(*api.Entry){nil, fam(2), nil, qual("z"), nil, ts(4), seq(31), kind(6)}
	for i, first := range ahead {
		changes := []func(*api.Entry){}
		for _, later := range behind[i+1:] {
			if later != nil {
				changes = append(changes, later)
			}
		}
		a := with(append(changes, first)...)
		if got := cell.Compare(a, base()); got != -1 {
			t.Errorf("part %d: %d, want -1", i, got)
		}
		if got := cell.Compare(base(), a); got != 1 {
			t.Errorf("part %d, the other way: %d, want 1", i, got)
		}
	}
}

// byParts is the order once more, told in numbers alone.
func byParts(e api.Entry) []int {
	text := func(b []byte) []int {
		var out []int
		for _, c := range b {
			out = append(out, int(c))
		}
		return append(out, -1)
	}
	first := func(k int) int {
		if e.Kind == k {
			return 0
		}
		return 1
	}
	out := append(text(e.Row), e.Fam, first(api.KFam))
	out = append(out, text(e.Qual)...)
	// ^n falls as n rises, and does so of every int.
	return append(out, first(api.KCol), ^e.Ts, ^e.Seq, e.Kind)
}

func compareParts(a, b []int) int {
	for i := range min(len(a), len(b)) {
		if a[i] < b[i] {
			return -1
		}
		if a[i] > b[i] {
			return 1
		}
	}
	return 0
}

// 2.2: it is so of any values.
func TestCompareOfAnyValues(t *testing.T) {
	r := rand.New(rand.NewSource(22))
	numbers := []int{math.MinInt, math.MinInt + 1, -1, 0, 1, 2, 3, 4, 5, 6, 8, math.MaxInt - 1, math.MaxInt}
	texts := []string{"", "\x00", "\x00\x00", "\x00\xff", "a", "a\x00", "aa", "b", "\x7f", "\x80", "\xff", long(300)}
	number := func() int { return numbers[r.Intn(len(numbers))] }
	text := func() []byte { return []byte(texts[r.Intn(len(texts))]) }
	for range 100000 {
		a := api.Entry{Row: text(), Fam: number(), Qual: text(), Ts: number(), Seq: number(), Kind: number(), Value: text()}
		b := a
		for range 1 + r.Intn(3) {
			switch r.Intn(7) {
			case 0:
				b.Row = text()
			case 1:
				b.Fam = number()
			case 2:
				b.Qual = text()
			case 3:
				b.Ts = number()
			case 4:
				b.Seq = number()
			case 5:
				b.Kind = number()
			case 6:
				b.Value = text()
			}
		}
		want := compareParts(byParts(a), byParts(b))
		if got := cell.Compare(a, b); got != want {
			t.Fatalf("Compare(%+v, %+v) = %d, want %d", a, b, got, want)
		}
		if got := cell.Compare(b, a); got != -want {
			t.Fatalf("Compare(%+v, %+v) = %d, want %d", b, a, got, -want)
		}
	}
}
