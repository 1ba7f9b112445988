package merge_test

import (
	"bytes"
	"math"
	"math/rand"
	"slices"
	"testing"

	"strata/api"
	"strata/cell"
	"strata/merge"
)

// roomy is bytes with spare room behind them that can be looked at.
func roomy(b []byte) []byte {
	whole := slices.Concat(b, bytes.Repeat([]byte{0xc3}, 64))
	return whole[:len(b):len(whole)]
}

// scribble writes over bytes and their spare room.
func scribble(b []byte) {
	b = b[:cap(b)]
	for i := range b {
		b[i] = ^b[i]
	}
}

func scribbleEntry(e api.Entry) {
	scribble(e.Row)
	scribble(e.Qual)
	scribble(e.Value)
}

// deep is an entry with bytes of its own, and room behind them.
func deep(e api.Entry) api.Entry {
	e.Row, e.Qual, e.Value = roomy(e.Row), roomy(e.Qual), roomy(e.Value)
	return e
}

func deepAll(l []api.Entry) []api.Entry {
	var out []api.Entry
	for _, e := range l {
		out = append(out, deep(e))
	}
	return out
}

// wholes: all bytes that entries reach, in copies.
func wholes(l []api.Entry) [][]byte {
	var out [][]byte
	for _, e := range l {
		for _, b := range [][]byte{e.Row, e.Qual, e.Value} {
			out = append(out, bytes.Clone(b[:cap(b)]))
		}
	}
	return out
}

func sameWholes(a, b [][]byte) bool { return slices.EqualFunc(a, b, bytes.Equal) }

// drawList is entries in order.
func drawList(r *rand.Rand, n int) []api.Entry {
	l := distinct(r, n)
	slices.SortFunc(l, cell.Compare)
	return l
}

// 9.6: what is written into the list that Of was handed, and into its entries, is not seen.
func TestOfKeepsCopies(t *testing.T) {
	l := drawList(rand.New(rand.NewSource(961)), 60)
	in := deepAll(l)
	s := merge.Of(in...)
	got, err := merge.Take(s, 20)
	mustTell(t, "the first", got, err, l[:20], api.OK)
	for i := range in {
		scribbleEntry(in[i])
		in[i] = api.Entry{}
	}
	got, err = merge.Take(s, 99)
	mustTell(t, "the others", got, err, l[20:], api.OK)
}

// 9.6: what Of tells is new memory: it can be written over, and what is told later is as it was.
func TestOfTellsNewMemory(t *testing.T) {
	l := drawList(rand.New(rand.NewSource(962)), 60)
	in := deepAll(l)
	was := wholes(in)
	for _, s := range []merge.Source{merge.Of(in...), newMerge(t, merge.Of(in...)), newMerge(t, newMerge(t, merge.Of(in...), merge.Of(in...)))} {
		for i, want := range l {
			e, more, err := s.Next()
			if !more || err != api.OK || !same(e, want) {
				t.Fatalf("%d: %+v, %v, %d", i, e, more, err)
			}
			for _, part := range []*[]byte{&e.Row, &e.Qual, &e.Value} {
				kept := bytes.Clone(*part)
				scribble(*part)
				*part = kept
				if !same(e, want) {
					t.Fatalf("the lists of entry %d share memory", i)
				}
			}
		}
		mustEnd(t, "behind them", s, api.OK)
	}
	if !sameWholes(wholes(in), was) {
		t.Error("what was handed to Of was changed")
	}
}

// 9.6: no list is changed, nor the room behind it, nor what stands in it; and a list of sources is not kept.
func TestListsAreNotChanged(t *testing.T) {
	r := rand.New(rand.NewSource(963))
	for range 200 {
		scripts := drawScripts(r)
		want, wantErr := model(scripts)
		room := append(sourcesOf(scripts), merge.Of(), merge.Of())
		sources := room[:len(scripts)]
		was := slices.Clone(room)
		m := newMerge(t, sources...)
		if !slices.Equal(room, was) {
			t.Fatal("New changed its list")
		}
		clear(room)
		got, err := told(t, m)
		mustTell(t, "its list written over", got, err, want, wantErr)
		copy(room, append(sourcesOf(scripts), was[len(scripts):]...))
		was = slices.Clone(room)
		got, err = merge.Side(nil, 99, sources...)
		mustTell(t, "Side", got, err, want, wantErr)
		if !slices.Equal(room, was) {
			t.Fatal("Side changed its list")
		}
	}
}

// sameMemory: not only the same bytes, but those.
func sameMemory(a, b api.Entry) bool {
	at := func(x, y []byte) bool {
		return len(x) == len(y) && cap(x) == cap(y) && (cap(x) == 0 || &x[:1][0] == &y[:1][0])
	}
	return same(a, b) && at(a.Row, b.Row) && at(a.Qual, b.Qual) && at(a.Value, b.Value)
}

// 9.6: entries that a source tells are handed on as they are, and nothing is written into them.
func TestHandedOnAsTheyAre(t *testing.T) {
	r := rand.New(rand.NewSource(964))
	l := deepAll(drawList(r, 60))
	was := wholes(l)
	source := func() merge.Source { return &player{script: script{l: l}} }
	for name, tell := range map[string]func() ([]api.Entry, api.Errno){
		"Take": func() ([]api.Entry, api.Errno) { return merge.Take(source(), 99) },
		"New":  func() ([]api.Entry, api.Errno) { return told(t, newMerge(t, source())) },
		"Side": func() ([]api.Entry, api.Errno) { return merge.Side(nil, 99, merge.Of(), source()) },
		"Seq":  func() ([]api.Entry, api.Errno) { return merge.Take(merge.Seq(slices.Values(l)), 99) },
	} {
		got, err := tell()
		mustTell(t, name, got, err, l, api.OK)
		if !slices.EqualFunc(got, l, sameMemory) {
			t.Errorf("%s: they are copies", name)
		}
		if !sameWholes(wholes(l), was) {
			t.Errorf("%s: they were changed", name)
		}
	}
}

// 9.4, 9.6: whoever was told an entry may write into it: a source that goes back behind it is found all the same, and one that does not is not.
func TestToldAndWrittenOver(t *testing.T) {
	r := rand.New(rand.NewSource(965))
	for range 2000 {
		scripts := drawScripts(r)
		want, wantErr := model(scripts)
		for i := range scripts {
			scripts[i].l = deepAll(scripts[i].l)
		}
		m := newMerge(t, sourcesOf(scripts)...)
		for i := 0; ; i++ {
			e, more, err := m.Next()
			if !more {
				if err != wantErr || i != len(want) {
					t.Fatalf("%d of %d, error %d, want %d", i, len(want), err, wantErr)
				}
				break
			}
			if i >= len(want) || !same(e, want[i]) {
				t.Fatalf("%d: %+v", i, e)
			}
			scribbleEntry(e)
		}
	}
}

// onePage tells all its entries in the same memory, which it writes over when it is asked again.
type onePage struct {
	player
	page [64]byte
}

func (p *onePage) Next() (api.Entry, bool, api.Errno) {
	e, more, err := p.player.Next()
	clear(p.page[:])
	e.Row = append(p.page[:0:20], e.Row...)
	e.Qual = append(p.page[20:20:40], e.Qual...)
	e.Value = append(p.page[40:40:60], e.Value...)
	return e, more, err
}

// 9.4, 9.6: a source is asked again only when its last entry has been told, so it may use the entry's memory again.
func TestSourcesOfOnePage(t *testing.T) {
	r := rand.New(rand.NewSource(966))
	for range 1000 {
		scripts := drawScripts(r)
		want, wantErr := model(scripts)
		var sources []merge.Source
		for _, s := range scripts {
			sources = append(sources, &onePage{player: player{script: s}})
		}
		m := newMerge(t, sources...)
		var got []api.Entry
		for {
			e, more, err := m.Next()
			if !more {
				mustTell(t, "told", got, err, want, wantErr)
				break
			}
			e.Row, e.Qual, e.Value = bytes.Clone(e.Row), bytes.Clone(e.Qual), bytes.Clone(e.Value)
			got = append(got, e)
		}
	}
}

// 9.6: two answers share nothing but the sources' bytes.
func TestAnswersAreNewLists(t *testing.T) {
	l := drawList(rand.New(rand.NewSource(967)), 30)
	s := merge.Of(l...)
	first, _ := merge.Take(s, 10)
	second, _ := merge.Take(s, 10)
	side, _ := merge.Side(nil, math.MaxInt, s)
	for _, list := range [][]api.Entry{first, second} {
		list = list[:cap(list)]
		clear(list)
	}
	mustTell(t, "Side behind Take", side, api.OK, l[20:], api.OK)
}
