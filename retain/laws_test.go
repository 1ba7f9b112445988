package retain_test

import (
	"math/rand"
	"testing"

	"strata/api"
	"strata/retain"
)

func (d drawn) squash(t *testing.T, clock int, major bool, l []api.Entry) []api.Entry {
	t.Helper()
	return must[[]api.Entry](t)(retain.Squash(d.s, clock, major, d.low, l...))
}

// mustReadAlike: no call tells one list from the other, at the clock and later.
func (d drawn) mustReadAlike(t *testing.T, clock int, a, b []api.Entry) {
	t.Helper()
	for later := clock; later < clock+8; later += 1 + later%3 {
		x, y := must[[]api.Entry](t)(retain.Vis(d.s, later, a...)), must[[]api.Entry](t)(retain.Vis(d.s, later, b...))
		if !sameLists(x, y) {
			t.Fatalf("%+v: Vis at %d of %s is %s; of %s it is %s", d.s, later, text(a), text(x), text(b), text(y))
		}
		if m, n := must[int](t)(retain.Top(d.s, later, a...)), must[int](t)(retain.Top(d.s, later, b...)); m != n {
			t.Fatalf("%+v: Top at %d of %s is %d; of %s it is %d", d.s, later, text(a), m, text(b), n)
		}
		for at := range 12 {
			n := 1 + (at+d.n)%4
			x, y := must[[]api.Entry](t)(retain.Read(d.s, later, at, n, a...)), must[[]api.Entry](t)(retain.Read(d.s, later, at, n, b...))
			if !sameLists(x, y) {
				t.Fatalf("%+v: Read(%d, %d) at %d of %s is %s; of %s it is %s", d.s, at, n, later, text(a), text(x), text(b), text(y))
			}
		}
	}
}

// parted puts each entry into one of the lists.
func parted(r *rand.Rand, l []api.Entry, count int) [][]api.Entry {
	out := make([][]api.Entry, count)
	for _, e := range l {
		i := r.Intn(count)
		out[i] = append(out[i], e)
	}
	return out
}

// 3.8
func TestAMinorSquashIsNotSeen(t *testing.T) {
	r := rand.New(rand.NewSource(38))
	for range 1000 {
		d := draw(r)
		p := parted(r, d.l, 2)
		left := d.squash(t, d.clock, false, p[0])
		d.mustReadAlike(t, d.clock, d.l, join(left, p[1]))
	}
}

// 3.9
func TestAMajorSquashIsNotSeen(t *testing.T) {
	r := rand.New(rand.NewSource(39))
	for range 1000 {
		d := draw(r)
		newer := drawEntries(r, r.Intn(12), 100)
		for i := range newer {
			newer[i].Ts += d.low
		}
		left := d.squash(t, d.clock, true, d.l)
		d.mustReadAlike(t, d.clock, join(d.l, newer), join(left, newer))
	}
}

// 3.10: squashing again leaves the same.
func TestSquashingAgain(t *testing.T) {
	r := rand.New(rand.NewSource(310))
	for range 3000 {
		d := draw(r)
		minor, major := d.squash(t, d.clock, false, d.l), d.squash(t, d.clock, true, d.l)
		if got := d.squash(t, d.clock, false, minor); !sameLists(got, minor) {
			t.Fatalf("a minor one of a minor one: %s, was %s", text(got), text(minor))
		}
		for _, first := range [][]api.Entry{minor, major} {
			if got := d.squash(t, d.clock, true, first); !sameLists(got, major) {
				t.Fatalf("a major one of %s: %s, at once %s", text(first), text(got), text(major))
			}
		}
	}
}

// 3.10: a major one hides all minor ones.
func TestAMajorSquashHidesMinorOnes(t *testing.T) {
	r := rand.New(rand.NewSource(3100))
	for range 3000 {
		d := draw(r)
		var left []api.Entry
		for _, p := range parted(r, d.l, 1+r.Intn(4)) {
			clock := r.Intn(d.clock + 1)
			p = d.squash(t, clock, false, p)
			if r.Intn(2) == 0 {
				p = d.squash(t, clock+r.Intn(d.clock-clock+1), false, p)
			}
			left = append(left, p...)
		}
		if got, want := d.squash(t, d.clock, true, left), d.squash(t, d.clock, true, d.l); !sameLists(got, want) {
			t.Fatalf("%+v, clock %d, low %d: a major one of %s: %s, of %s: %s", d.s, d.clock, d.low, text(left), text(got), text(d.l), text(want))
		}
	}
}

// 3.11
func TestAMajorSquashCollects(t *testing.T) {
	r := rand.New(rand.NewSource(311))
	for range 3000 {
		d := draw(r)
		m := d.model()
		var puts []api.Entry
		for _, e := range d.squash(t, d.clock, true, d.l) {
			switch e.Kind {
			case api.KPut:
				puts = append(puts, e)
			case api.KHusk:
				// The model looks for the group by its place alone: so it may be asked of the husk itself.
				if m.isMasked(e) || m.isExpired(e) || !m.isKept(e) {
					t.Fatalf("%s: a husk that is out, or not kept: %s", text(d.l), text([]api.Entry{e}))
				}
			case api.KCell:
				t.Fatalf("%s: a cell tombstone is left", text(d.l))
			default:
				if e.Ts <= d.low {
					t.Fatalf("%s: low %d: %s is left", text(d.l), d.low, text([]api.Entry{e}))
				}
			}
		}
		if want := m.vis(); !sameLists(puts, want) {
			t.Fatalf("%s: %s are left, visible are %s", text(d.l), text(puts), text(want))
		}
	}
}

// 3.12
func TestNothingComesBack(t *testing.T) {
	r := rand.New(rand.NewSource(312))
	for range 3000 {
		d := draw(r)
		more := drawEntries(r, r.Intn(12), 100)
		visible := map[int]bool{}
		for _, e := range must[[]api.Entry](t)(retain.Vis(d.s, d.clock, d.l...)) {
			visible[e.Seq] = true
		}
		for _, e := range must[[]api.Entry](t)(retain.Vis(d.s, d.clock+r.Intn(5), join(d.l, more)...)) {
			if e.Seq < 100 && !visible[e.Seq] {
				t.Fatalf("%+v, clock %d: %s: with %s beside it %s came back", d.s, d.clock, text(d.l), text(more), text([]api.Entry{e}))
			}
		}
	}
}
