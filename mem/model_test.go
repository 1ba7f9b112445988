package mem_test

import (
	"bytes"
	"iter"
	"math/rand"
	"slices"
	"testing"

	"strata/api"
	"strata/cell"
	"strata/mem"
)

func put(row string, ts int) api.Entry {
	return api.Entry{Row: []byte(row), Qual: []byte("q"), Ts: ts, Seq: 32, Kind: api.KPut, Value: []byte("v")}
}

// four are a, b, c and d of the chapter's examples.
func four() (a, b, c, d api.Entry) {
	return put("r", 5), put("r", 4), put("s", 5), put("r", 1)
}

func with(e api.Entry, change func(e *api.Entry)) api.Entry {
	change(&e)
	return e
}

func same(a, b api.Entry) bool {
	return bytes.Equal(a.Row, b.Row) && a.Fam == b.Fam && bytes.Equal(a.Qual, b.Qual) &&
		a.Ts == b.Ts && a.Seq == b.Seq && a.Kind == b.Kind && bytes.Equal(a.Value, b.Value)
}

func sameAll(a, b []api.Entry) bool { return slices.EqualFunc(a, b, same) }

func long(n int) []byte { return bytes.Repeat([]byte{'x'}, n) }

// tableOf is a table of these entries, added in this order.
func tableOf(t testing.TB, l ...api.Entry) *mem.Table {
	t.Helper()
	x := mem.New()
	mustAdd(t, x, l...)
	return x
}

func mustAdd(t testing.TB, x *mem.Table, l ...api.Entry) {
	t.Helper()
	for _, e := range l {
		if err := x.Add(e); err != api.OK {
			t.Fatalf("Add(%+v): %d", e, err)
		}
	}
}

// mustGive: a range gives just these.
func mustGive(t testing.TB, what string, got iter.Seq[api.Entry], want ...api.Entry) {
	t.Helper()
	if got == nil {
		t.Fatalf("%s: nil", what)
	}
	if l := slices.Collect(got); !sameAll(l, want) {
		t.Fatalf("%s: gives\n%+v, want\n%+v", what, l, want)
	}
}

// model is what a table should be, told in lists of keys: each in order, with its entry.
type model []keyed

type keyed struct {
	key   []byte
	entry api.Entry
}

func (m model) place(key []byte) (int, bool) {
	return slices.BinarySearchFunc(m, key, func(x keyed, key []byte) int { return bytes.Compare(x.key, key) })
}

// add is the model with an entry; false: it has one there.
func (m model) add(t testing.TB, e api.Entry) (model, bool) {
	t.Helper()
	key, err := cell.Key(e)
	if err != api.OK {
		t.Fatalf("Key(%+v): %d", e, err)
	}
	i, there := m.place(key)
	if there {
		return m, false
	}
	return slices.Insert(slices.Clone(m), i, keyed{key, e}), true
}

func (m model) entries() []api.Entry {
	var out []api.Entry
	for _, x := range m {
		out = append(out, x.entry)
	}
	return out
}

func (m model) size(t testing.TB) int {
	t.Helper()
	n := 0
	for _, x := range m {
		packed, err := cell.Pack(x.entry)
		if err != api.OK {
			t.Fatalf("Pack(%+v): %d", x.entry, err)
		}
		n += len(packed)
	}
	return n
}

// notAhead is what From should give, of any e.
func (m model) notAhead(e api.Entry) []api.Entry {
	var out []api.Entry
	for _, x := range m {
		if cell.Compare(x.entry, e) >= 0 {
			out = append(out, x.entry)
		}
	}
	return out
}

// mustBe: all that a table tells is what the model tells.
func mustBe(t testing.TB, x *mem.Table, m model) {
	t.Helper()
	mustGive(t, "All", x.All(), m.entries()...)
	if x.Len() != len(m) || x.Bytes() != m.size(t) {
		t.Fatalf("Len %d, Bytes %d, want %d, %d", x.Len(), x.Bytes(), len(m), m.size(t))
	}
}

func letters(r *rand.Rand, n int) []byte {
	b := make([]byte, n)
	for i := range b {
		b[i] = "\x00\x01ab\xfe\xff"[r.Intn(6)]
	}
	return b
}

// one is an entry of few letters, so that there is often one with its key.
func one(r *rand.Rand) api.Entry {
	e := api.Entry{Row: letters(r, 1+r.Intn(2)), Fam: r.Intn(2), Qual: letters(r, r.Intn(2)), Ts: 1 + r.Intn(3), Seq: r.Intn(2), Kind: 1 + r.Intn(5)}
	switch e.Kind {
	case api.KFam:
		e.Qual = nil
	case api.KPut:
		e.Value = letters(r, r.Intn(200))
	}
	return e
}

// draw is entries of which no two have one key, in some order, and the model of them.
func draw(t testing.TB, r *rand.Rand, n int) ([]api.Entry, model) {
	t.Helper()
	var l []api.Entry
	var m model
	for len(l) < n {
		e := one(r)
		if next, fresh := m.add(t, e); fresh {
			l, m = append(l, e), next
		}
	}
	return l, m
}
