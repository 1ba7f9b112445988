package mem_test

import (
	"bytes"
	"iter"
	"math"
	"math/rand"
	"slices"
	"sync"
	"testing"

	"strata/api"
	"strata/cell"
	"strata/mem"
)

// roomy is bytes with spare room behind them that can be looked at.
func roomy(b []byte) []byte {
	whole := slices.Concat(b, bytes.Repeat([]byte{0xc3}, 64))
	return whole[:len(b):len(whole)]
}

// scribble writes over bytes and their spare room.
func scribble(b []byte) {
	b = b[:cap(b)]
	for i := range b {
		b[i] = ^b[i]
	}
}

func scribbleEntry(e api.Entry) {
	scribble(e.Row)
	scribble(e.Qual)
	scribble(e.Value)
}

// deep is an entry with bytes of its own, and room behind them.
func deep(e api.Entry) api.Entry {
	e.Row, e.Qual, e.Value = roomy(e.Row), roomy(e.Qual), roomy(e.Value)
	return e
}

// wholes: all bytes that an entry reaches, in copies.
func wholes(e api.Entry) [][]byte {
	var out [][]byte
	for _, b := range [][]byte{e.Row, e.Qual, e.Value} {
		out = append(out, bytes.Clone(b[:cap(b)]))
	}
	return out
}

func sameWholes(a, b [][]byte) bool { return slices.EqualFunc(a, b, bytes.Equal) }

// 8.7
func TestAddNeitherChangesNorKeeps(t *testing.T) {
	l, m := draw(t, rand.New(rand.NewSource(871)), 150)
	x := mem.New()
	for _, e := range l {
		in := deep(e)
		was := wholes(in)
		mustAdd(t, x, in)
		refused := deep(e)
		refused.Value = nil
		x.Add(refused)
		if !sameWholes(wholes(in), was) {
			t.Fatal("Add changed what it was handed")
		}
		scribbleEntry(in)
		scribbleEntry(refused)
	}
	mustBe(t, x, m)
}

// 8.5, 8.7: e is taken as it is when From is called.
func TestFromNeitherChangesNorKeeps(t *testing.T) {
	l, m := draw(t, rand.New(rand.NewSource(872)), 60)
	x := tableOf(t, l...)
	for _, e := range l {
		in := deep(e)
		was := wholes(in)
		s := x.From(in)
		mustGive(t, "From", s, m.notAhead(e)...)
		if !sameWholes(wholes(in), was) {
			t.Fatal("From changed what it was handed")
		}
		scribbleEntry(in)
		mustGive(t, "From, written over", s, m.notAhead(e)...)
		begun := doingAt(s, 0, func() { scribbleEntry(in) })
		mustGive(t, "From, written over within its loop", begun, m.notAhead(e)...)
	}
}

// 8.7: what a range gives is new memory: it can be written over, the room behind it too, and nobody sees it.
func TestWhatIsGivenIsNewMemory(t *testing.T) {
	l, m := draw(t, rand.New(rand.NewSource(873)), 150)
	x := tableOf(t, l...)
	for _, s := range []iter.Seq[api.Entry]{x.All(), x.From(api.Entry{}), x.From(m[70].entry)} {
		want := slices.Collect(s)
		i := 0
		for e := range s {
			if !same(e, want[i]) {
				t.Fatalf("%d: %+v, want %+v", i, e, want[i])
			}
			scribbleEntry(e)
			i++
		}
		mustBe(t, x, m)
	}
	for _, e := range l {
		if err := x.Add(e); err != api.ErrThere {
			t.Fatalf("not found any more: %d", err)
		}
	}
}

// 8.7: no two lists of one answer share memory, nor do two answers.
func TestWhatIsGivenSharesNothing(t *testing.T) {
	l, m := draw(t, rand.New(rand.NewSource(874)), 100)
	x := tableOf(t, l...)
	given, twin := slices.Collect(x.All()), slices.Collect(x.All())
	for i := range given {
		want := m[i].entry
		for _, part := range []func(*api.Entry) *[]byte{
			func(e *api.Entry) *[]byte { return &e.Row },
			func(e *api.Entry) *[]byte { return &e.Qual },
			func(e *api.Entry) *[]byte { return &e.Value },
		} {
			scribble(*part(&given[i]))
			*part(&given[i]) = *part(&want)
			if !same(given[i], want) {
				t.Fatalf("the lists of entry %d share memory", i)
			}
		}
	}
	if !sameAll(twin, m.entries()) {
		t.Error("two answers share memory")
	}
}

// 8.7: an entry that a table gave may be added to another one, and written over then.
func TestGivenAndAdded(t *testing.T) {
	l, m := draw(t, rand.New(rand.NewSource(875)), 60)
	x, y := tableOf(t, l...), mem.New()
	for e := range x.All() {
		mustAdd(t, y, e)
		scribbleEntry(e)
	}
	mustBe(t, x, m)
	mustBe(t, y, m)
}

// 8.7: whatever is handed in, and however the calls follow one another.
func TestWhateverIsHandedIn(t *testing.T) {
	r := rand.New(rand.NewSource(876))
	wild := []int{math.MinInt, -1, 0, 1, 2, 5, 6, 8, 1 << 40, 1 << 44, math.MaxInt}
	pick := func() int { return wild[r.Intn(len(wild))] }
	for range 40 {
		x := mem.New()
		for range 300 {
			e := api.Entry{Row: letters(r, r.Intn(3)), Fam: pick(), Qual: letters(r, r.Intn(3)), Ts: pick(), Seq: pick(), Kind: pick(), Value: make([]byte, r.Intn(2)*r.Intn(5000))}
			if r.Intn(2) == 0 {
				e = one(r)
			}
			was, frozen, check := x.Len(), x.Frozen(), cell.Check(e)
			err := x.Add(e)
			if check != api.OK && err != check || check == api.OK && frozen && err != api.ErrFrozen || (err == api.OK) != (x.Len() == was+1) {
				t.Fatalf("Add(%+v): %d; Check: %d", e, err, check)
			}
			given := slices.Collect(x.From(e))
			if !slices.IsSortedFunc(given, cell.Compare) || err == api.OK && (len(given) == 0 || !same(given[0], e)) {
				t.Fatalf("From(%+v): %+v", e, given)
			}
			if r.Intn(200) == 0 {
				x.Freeze()
			}
		}
	}
}

// 8.7: a loop that panics leaves the table as it is.
func TestPanicWithinALoop(t *testing.T) {
	a, b, c, d := four()
	x := tableOf(t, a, b, c)
	func() {
		defer func() {
			if recover() == nil {
				t.Error("what the loop threw was swallowed")
			}
		}()
		for range x.All() {
			mustAdd(t, x, d)
			panic("the loop's own")
		}
	}()
	mustGive(t, "All", x.All(), a, b, d, c)
}

// 8.7: whoever only reads may do it side by side.
func TestReadSideBySide(t *testing.T) {
	l, m := draw(t, rand.New(rand.NewSource(877)), 100)
	x := tableOf(t, l...)
	all := x.All()
	var group sync.WaitGroup
	for i := range 8 {
		group.Go(func() {
			e := m[i*10].entry
			if !sameAll(slices.Collect(all), m.entries()) || !sameAll(slices.Collect(x.From(e)), m.notAhead(e)) || x.Len() != 100 {
				t.Error("side by side it gives something else")
			}
		})
	}
	group.Wait()
}

// 8.7: a table of many entries, rising, falling and from both ends, takes no long way.
func TestMany(t *testing.T) {
	const many = 100000
	for _, place := range []func(i int) int{
		func(i int) int { return i },
		func(i int) int { return many - 1 - i },
		func(i int) int {
			if i%2 == 0 {
				return i / 2
			}
			return many - 1 - i/2
		},
	} {
		x := mem.New()
		for i := range many {
			mustAdd(t, x, put("r", 1+place(i)))
		}
		ts := many
		for e := range x.All() {
			if e.Ts != ts {
				t.Fatalf("%d, want %d", e.Ts, ts)
			}
			ts--
		}
		if ts != 0 || x.Len() != many {
			t.Fatalf("%d are missing of %d", ts, x.Len())
		}
	}
}
