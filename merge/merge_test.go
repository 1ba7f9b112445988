package merge_test

import (
	"bytes"
	"math"
	"math/rand"
	"slices"
	"testing"

	"strata/api"
	"strata/cell"
	"strata/merge"
	"strata/retain"
)

// compareByKey is THE ORDER by keys, of entries that have one.
func compareByKey(a, b api.Entry) int {
	x, _ := cell.Key(a)
	y, _ := cell.Key(b)
	return bytes.Compare(x, y)
}

// 9.3
func TestNewRefuses(t *testing.T) {
	for n := range 70 {
		players, sources := play(make([]script, n))
		m, err := merge.New(sources...)
		if n > 64 {
			if m != nil || err != api.ErrSource {
				t.Errorf("%d sources: %v, %d", n, m, err)
			}
		} else if m == nil || err != api.OK {
			t.Errorf("%d sources: %v, %d", n, m, err)
		}
		for _, p := range players {
			if p.asked != 0 {
				t.Fatal("New asked a source")
			}
		}
		for k := range min(n, 64) {
			_, sources := play(make([]script, n))
			sources[k] = nil
			if m, err := merge.New(sources...); m != nil || err != api.ErrSource {
				t.Errorf("the %d-th of %d is nil: %v, %d", k, n, m, err)
			}
		}
	}
}

// 9.3, 9.4: a merge of none, and of sources that tell nothing.
func TestMergeOfNothing(t *testing.T) {
	mustEnd(t, "no source", newMerge(t), api.OK)
	for n := 1; n <= 64; n++ {
		mustEnd(t, "empty sources", newMerge(t, sourcesOf(make([]script, n))...), api.OK)
	}
}

// told asks a merge, one by one, and then some times more.
func told(t testing.TB, m *merge.Merge) ([]api.Entry, api.Errno) {
	t.Helper()
	var out []api.Entry
	for {
		e, more, err := m.Next()
		if !more {
			if !same(e, api.Entry{}) {
				t.Fatalf("an entry beside the end: %+v", e)
			}
			mustEnd(t, "Next", m, err)
			return out, err
		}
		if err != api.OK {
			t.Fatalf("an entry beside error %d", err)
		}
		out = append(out, e)
	}
}

// 9.4: against the model, with sources that go back, that are broken and that do not agree.
func TestNextAgainstTheModel(t *testing.T) {
	r := rand.New(rand.NewSource(94))
	var seen [300]int
	for range 20000 {
		scripts := drawScripts(r)
		players, sources := play(scripts)
		got, err := told(t, newMerge(t, sources...))
		want, wantErr := model(scripts)
		mustTell(t, "told", got, err, want, wantErr)
		mustNotBeLate(t, players)
		seen[err]++
	}
	for _, err := range []api.Errno{api.OK, api.ErrSource, api.ErrTwice, api.ErrBroken, api.ErrDown} {
		if seen[err] < 100 {
			t.Errorf("error %d was drawn only %d times", err, seen[err])
		}
	}
}

// 9.4: each thing that is wrong, at its place.
func TestWhatIsWrong(t *testing.T) {
	a, b, c, d, x := five()
	y := with(b, func(e *api.Entry) { e.Value = nil })
	list := func(l ...api.Entry) []api.Entry { return l }
	broken, down, back, twice := api.ErrBroken, api.ErrDown, api.ErrSource, api.ErrTwice
	for i, k := range []struct {
		scripts []script
		want    []api.Entry
		err     api.Errno
	}{
		// a source's error: behind its last entry, ahead of all if there is none
		{[]script{{list(a, d), 0}, {list(b), broken}}, list(a, b), broken},
		{[]script{{list(a, d), 0}, {nil, broken}}, nil, broken},
		{[]script{{list(a, b, c, d), broken}}, list(a, b, c, d), broken},
		{[]script{{list(a, b), 0}, {list(c, d), broken}}, list(a, b, c, d), broken},
		{[]script{{list(b), broken}, {list(a, c), 0}, {list(b, d), 0}}, list(a, b), broken},
		// at one place: the first of the list
		{[]script{{nil, broken}, {nil, down}}, nil, broken},
		{[]script{{list(a), 0}, {nil, down}, {nil, broken}}, nil, down},
		{[]script{{list(a, c), 0}, {list(b), down}, {list(a, b), broken}}, list(a, b), down},
		{[]script{{list(b), down}, {list(a), broken}}, list(a), broken},
		{[]script{{list(b, a), 0}, {list(b), broken}}, list(b), back},
		{[]script{{list(b), broken}, {list(b, a), 0}}, list(b), broken},
		// one that goes back, or stands still
		{[]script{{list(b, b, c), 0}}, list(b), back},
		{[]script{{list(b, x, c), 0}}, list(b), back},
		{[]script{{list(c, b, d), 0}, {list(a, b), 0}}, list(a, b, c), back},
		{[]script{{list(d, a), broken}, {list(a, b), 0}}, list(a, b, d), back},
		{[]script{{list(b, a), broken}}, list(b), back},
		// two that are not the same: neither is told
		{[]script{{list(b), 0}, {list(x), 0}}, nil, twice},
		{[]script{{list(b), 0}, {list(y), 0}}, nil, twice},
		{[]script{{list(a, b), 0}, {list(b), 0}, {list(b, c), 0}, {list(x, d), 0}}, list(a), twice},
		{[]script{{list(x), 0}, {list(b), 0}, {list(b), 0}}, nil, twice},
		{[]script{{list(b), 0}, {list(x), 0}, {list(b), 0}}, nil, twice},
		// ahead of the errors behind that place, behind those ahead of it
		{[]script{{list(b), broken}, {list(x), down}}, nil, twice},
		{[]script{{list(b, a), 0}, {list(x, a), 0}}, nil, twice},
		{[]script{{list(a), broken}, {list(b), 0}, {list(x), 0}}, list(a), broken},
		{[]script{{nil, broken}, {list(b), 0}, {list(x), 0}}, nil, broken},
		{[]script{{list(a, b), 0}, {list(a), down}, {list(x), 0}}, list(a), down},
		// what one source tells twice is told with none of another's
		{[]script{{list(b, b), 0}, {list(b, c), 0}}, list(b), back},
		// an error of the same name as this layer's own
		{[]script{{list(a), twice}, {list(b), 0}}, list(a), twice},
		{[]script{{list(a), api.ErrClosed}, {list(b), 0}}, list(a), api.ErrClosed},
	} {
		for _, way := range []struct {
			name string
			tell func(sources []merge.Source) ([]api.Entry, api.Errno)
		}{
			{"New", func(sources []merge.Source) ([]api.Entry, api.Errno) { return told(t, newMerge(t, sources...)) }},
			{"Side", func(sources []merge.Source) ([]api.Entry, api.Errno) { return merge.Side(nil, 9, sources...) }},
		} {
			players, sources := play(k.scripts)
			got, err := way.tell(sources)
			if !sameAll(got, k.want) || err != k.err {
				t.Errorf("%d, %s: %q, %d, want %q, %d", i, way.name, names(got), err, names(k.want), k.err)
			}
			mustNotBeLate(t, players)
		}
		if got, err := model(k.scripts); !sameAll(got, k.want) || err != k.err {
			t.Errorf("%d: the model: %q, %d, want %q, %d", i, names(got), err, names(k.want), k.err)
		}
	}
}

// 9.4: each part of a place, and the Value, makes two entries two.
func TestSameAtOnePlace(t *testing.T) {
	_, b, _, _, _ := five()
	for i, change := range []func(e *api.Entry){
		func(e *api.Entry) { e.Row = []byte("ba") },
		func(e *api.Entry) { e.Fam = 1 },
		func(e *api.Entry) { e.Qual = nil },
		func(e *api.Entry) { e.Ts = 4 },
		func(e *api.Entry) { e.Seq = 1 },
		func(e *api.Entry) { e.Kind = api.KHusk },
		func(e *api.Entry) { e.Kind = 0 },
	} {
		l := []api.Entry{b, with(b, change)}
		slices.SortFunc(l, cell.Compare)
		got, err := told(t, newMerge(t, merge.Of(l[0]), merge.Of(l[1])))
		mustTell(t, "two", got, err, l, api.OK)
		got, err = told(t, newMerge(t, merge.Of(l[1]), merge.Of(l[0])))
		mustTell(t, "two, the other way round", got, err, l, api.OK)
		got, err = told(t, newMerge(t, merge.Of(l...), merge.Of(l[1]), merge.Of(l[0])))
		mustTell(t, "each of them twice", got, err, l, api.OK)
		if len(got) != 2 {
			t.Errorf("%d: %d", i, len(got))
		}
	}
	empty := with(b, func(e *api.Entry) { e.Value = []byte{} })
	none := with(b, func(e *api.Entry) { e.Value = nil })
	got, err := told(t, newMerge(t, merge.Of(empty), merge.Of(none)))
	mustTell(t, "an empty Value and none", got, err, []api.Entry{none}, api.OK)
}

// 9.4: entries may be any values, also such as stand ahead of the zero entry.
func TestNextOfWhatIsNoEntry(t *testing.T) {
	r := rand.New(rand.NewSource(95))
	wild := []int{math.MinInt, -1, 0, 1, 5, 6, math.MaxInt}
	pick := func() int { return wild[r.Intn(len(wild))] }
	for range 2000 {
		scripts := make([]script, 1+r.Intn(4))
		for i := range scripts {
			s := &scripts[i]
			for range r.Intn(12) {
				s.l = append(s.l, api.Entry{Row: letters(r, r.Intn(2)*r.Intn(2)), Fam: pick(), Qual: letters(r, r.Intn(2)*r.Intn(2)), Ts: pick(), Seq: pick(), Kind: pick()})
			}
			if r.Intn(4) > 0 {
				slices.SortFunc(s.l, cell.Compare)
			}
		}
		got, err := told(t, newMerge(t, sourcesOf(scripts)...))
		want, wantErr := model(scripts)
		mustTell(t, "told", got, err, want, wantErr)
	}
	got, err := told(t, newMerge(t, merge.Of(api.Entry{}), merge.Of(api.Entry{Fam: -1}, api.Entry{})))
	mustTell(t, "the zero entry", got, err, []api.Entry{{Fam: -1}, {}}, api.OK)
	got, err = told(t, newMerge(t, merge.Of(api.Entry{}, api.Entry{})))
	mustTell(t, "the zero entry twice", got, err, []api.Entry{{}}, api.ErrSource)
}

// 9.4: what is wrong may come as late as the last entry of many.
func TestNextOfMany(t *testing.T) {
	const many = 2000
	var scripts []script
	for k := range 64 {
		var s script
		for i := range many {
			s.l = append(s.l, put(string([]byte{byte(i >> 8), byte(i)}), i*64+k))
		}
		scripts = append(scripts, s)
	}
	scripts[40].end = api.ErrBroken
	got, err := told(t, newMerge(t, sourcesOf(scripts)...))
	if err != api.ErrBroken || !slices.IsSortedFunc(got, cell.Compare) || len(got) != 64*(many-1)+24 || got[len(got)-1].Seq != (many-1)*64+40 {
		t.Errorf("%d, error %d", len(got), err)
	}
}

// distinct are entries that cell.Check takes, of which no two share a Seq.
func distinct(r *rand.Rand, n int) []api.Entry {
	var l []api.Entry
	for _, seq := range r.Perm(n) {
		e := one(r)
		e.Seq = seq
		l = append(l, e)
	}
	return l
}

// shareOut gives each entry to one source, and some to several; each source has its entries in order.
func shareOut(r *rand.Rand, l []api.Entry, sources int) []script {
	scripts := make([]script, sources)
	for _, e := range l {
		for range 1 + r.Intn(4)/2 {
			s := &scripts[r.Intn(sources)]
			if !slices.ContainsFunc(s.l, func(x api.Entry) bool { return same(x, e) }) {
				s.l = append(s.l, e)
			}
		}
	}
	for i := range scripts {
		slices.SortFunc(scripts[i].l, compareByKey)
	}
	return scripts
}

// 9.7: however they are shared out, and in whatever order the sources are listed.
func TestSharedOut(t *testing.T) {
	r := rand.New(rand.NewSource(97))
	for range 400 {
		l := distinct(r, r.Intn(80))
		want, err := retain.Sort(l...)
		if err != api.OK {
			t.Fatalf("Sort: %d", err)
		}
		for range 4 {
			scripts := shareOut(r, l, 1+r.Intn(64))
			r.Shuffle(len(scripts), func(i, j int) { scripts[i], scripts[j] = scripts[j], scripts[i] })
			got, err := told(t, newMerge(t, sourcesOf(scripts)...))
			mustTell(t, "shared out", got, err, want, api.OK)
		}
	}
}

// 9.9: however deep they stand in one another.
func TestMergesOfMerges(t *testing.T) {
	r := rand.New(rand.NewSource(99))
	for range 400 {
		scripts := shareOut(r, distinct(r, r.Intn(80)), 1+r.Intn(64))
		want, err := told(t, newMerge(t, sourcesOf(scripts)...))
		if err != api.OK {
			t.Fatalf("flat: %d", err)
		}
		sources := sourcesOf(scripts)
		for len(sources) > 1 {
			n := 1 + r.Intn(len(sources))
			m := newMerge(t, sources[:n]...)
			sources = append(slices.Clone(sources[n:]), m)
			if n == 1 && r.Intn(3) == 0 {
				break
			}
		}
		got, err := told(t, newMerge(t, sources...))
		mustTell(t, "merges of merges", got, err, want, api.OK)
		if got, err := merge.Side(nil, 99, newMerge(t, sourcesOf(scripts)...)); err != api.OK || !sameAll(got, want) {
			t.Fatalf("a merge, side by side: %d, %d", len(got), err)
		}
	}
}

// 9.4, 9.9: a merge that has ended by an error is a source with that error.
func TestErrorsOfMerges(t *testing.T) {
	r := rand.New(rand.NewSource(100))
	for range 3000 {
		inner, outer := drawScripts(r), drawScripts(r)
		all, err := model(inner)
		want, wantErr := model(append(slices.Clone(outer), script{all, err}))
		got, gotErr := told(t, newMerge(t, append(sourcesOf(outer), newMerge(t, sourcesOf(inner)...))...))
		mustTell(t, "a merge in a merge", got, gotErr, want, wantErr)
	}
}

// 9.6: as many merges in one another as the promises hold for.
func TestDeepMerges(t *testing.T) {
	a, b, _, _, _ := five()
	s := merge.Of(a, b)
	for range 1<<16 - 1 {
		s = newMerge(t, s)
	}
	got, err := merge.Take(s, 9)
	mustTell(t, "deep", got, err, []api.Entry{a, b}, api.OK)
	s = merge.Of(b, a)
	for range 1<<16 - 1 {
		s = newMerge(t, s)
	}
	got, err = merge.Side(nil, 9, s)
	mustTell(t, "deep, going back", got, err, []api.Entry{b}, api.ErrSource)
}
