package merge_test

import (
	"bytes"
	"math/rand"
	"slices"
	"testing"

	"strata/api"
	"strata/cell"
	"strata/merge"
)

func put(row string, seq int) api.Entry {
	return api.Entry{Row: []byte(row), Qual: []byte("q"), Ts: 5, Seq: seq, Kind: api.KPut, Value: []byte("v")}
}

// five are a, b, c, d and x of the chapter's examples.
func five() (a, b, c, d, x api.Entry) {
	x = put("b", 2)
	x.Value = []byte("w")
	return put("a", 1), put("b", 2), put("c", 3), put("d", 4), x
}

func with(e api.Entry, change func(e *api.Entry)) api.Entry {
	change(&e)
	return e
}

func same(a, b api.Entry) bool {
	return bytes.Equal(a.Row, b.Row) && a.Fam == b.Fam && bytes.Equal(a.Qual, b.Qual) &&
		a.Ts == b.Ts && a.Seq == b.Seq && a.Kind == b.Kind && bytes.Equal(a.Value, b.Value)
}

func sameAll(a, b []api.Entry) bool { return slices.EqualFunc(a, b, same) }

func names(l []api.Entry) string {
	var out []byte
	for _, e := range l {
		out = append(append(append(out, e.Row...), '/'), e.Value...)
		out = append(out, ' ')
	}
	return string(out)
}

// mustTell: an answer is just these entries, and this error.
func mustTell(t testing.TB, what string, got []api.Entry, err api.Errno, want []api.Entry, wantErr api.Errno) {
	t.Helper()
	if !sameAll(got, want) || err != wantErr {
		t.Fatalf("%s: %q, %d, want %q, %d", what, names(got), err, names(want), wantErr)
	}
}

// mustEnd: whatever was told up to here, from now on it is this.
func mustEnd(t testing.TB, what string, s merge.Source, want api.Errno) {
	t.Helper()
	for range 3 {
		if e, more, err := s.Next(); more || err != want || !same(e, api.Entry{}) {
			t.Fatalf("%s: behind the last one %+v, %v, %d, want error %d", what, e, more, err, want)
		}
	}
}

func newMerge(t testing.TB, sources ...merge.Source) *merge.Merge {
	t.Helper()
	m, err := merge.New(sources...)
	if m == nil || err != api.OK {
		t.Fatalf("New: %v, %d", m, err)
	}
	return m
}

// script is what a source will tell: entries, and what is wrong behind them (OK: nothing).
type script struct {
	l   []api.Entry
	end api.Errno
}

// player plays a script, and counts how it is asked.
type player struct {
	script
	at    int
	late  int // asked behind its error
	asked int
}

func (p *player) Next() (api.Entry, bool, api.Errno) {
	p.asked++
	if p.at < len(p.l) {
		p.at++
		return p.l[p.at-1], true, api.OK
	}
	if p.at > len(p.l) && p.end != api.OK {
		p.late++
	}
	p.at = len(p.l) + 1
	return api.Entry{}, false, p.end
}

// play is a player of each script, and the same ones as sources.
func play(scripts []script) ([]*player, []merge.Source) {
	var players []*player
	var sources []merge.Source
	for _, s := range scripts {
		p := &player{script: s}
		players, sources = append(players, p), append(sources, p)
	}
	return players, sources
}

func sourcesOf(scripts []script) []merge.Source {
	_, sources := play(scripts)
	return sources
}

func mustNotBeLate(t testing.TB, players []*player) {
	t.Helper()
	for i, p := range players {
		if p.late > 0 {
			t.Fatalf("source %d was asked %d times behind its error", i, p.late)
		}
	}
}

// cut is what Take of up to most tells of each script.
func cut(scripts []script, most int) []script {
	var out []script
	for _, s := range scripts {
		if len(s.l) >= most {
			s = script{l: s.l[:max(most, 0)]}
		}
		out = append(out, s)
	}
	return out
}

// rightly is what a script tells up to where it goes back, and what is wrong there.
func (s script) rightly() script {
	for i := 1; i < len(s.l); i++ {
		if cell.Compare(s.l[i-1], s.l[i]) >= 0 {
			return script{s.l[:i], api.ErrSource}
		}
	}
	return s
}

// model is what a merge of these scripts should tell, found by going from place to place through all of them.
func model(scripts []script) ([]api.Entry, api.Errno) {
	var all []api.Entry
	var right []script
	for _, s := range scripts {
		s = s.rightly()
		right = append(right, s)
		all = append(all, s.l...)
	}
	slices.SortStableFunc(all, cell.Compare)
	if err := firstError(right, func(s script) bool { return len(s.l) == 0 }); err != api.OK {
		return nil, err
	}
	var out []api.Entry
	for _, e := range all {
		if len(out) > 0 && cell.Compare(out[len(out)-1], e) == 0 {
			continue
		}
		there := func(x api.Entry) bool { return cell.Compare(x, e) == 0 }
		for _, s := range right {
			if i := slices.IndexFunc(s.l, there); i >= 0 && !same(s.l[i], e) {
				return out, api.ErrTwice
			}
		}
		out = append(out, e)
		if err := firstError(right, func(s script) bool { return len(s.l) > 0 && there(s.l[len(s.l)-1]) }); err != api.OK {
			return out, err
		}
	}
	return out, api.OK
}

// firstError is the error of the first of those scripts that has one.
func firstError(scripts []script, of func(s script) bool) api.Errno {
	for _, s := range scripts {
		if of(s) && s.end != api.OK {
			return s.end
		}
	}
	return api.OK
}

func letters(r *rand.Rand, n int) []byte {
	b := make([]byte, n)
	for i := range b {
		b[i] = "\x00ab\xff"[r.Intn(4)]
	}
	return b
}

// one is an entry of few letters, so that places meet.
func one(r *rand.Rand) api.Entry {
	e := api.Entry{Row: letters(r, 1+r.Intn(2)), Fam: r.Intn(2), Qual: letters(r, r.Intn(2)), Ts: 1 + r.Intn(2), Seq: r.Intn(2), Kind: 1 + r.Intn(5)}
	switch e.Kind {
	case api.KFam:
		e.Qual = nil
	case api.KPut:
		e.Value = []byte("v")
	}
	return e
}

// drawScripts are some scripts, in order but for some, sound but for some, alike at one place but for some.
func drawScripts(r *rand.Rand) []script {
	faults := []api.Errno{api.ErrBroken, api.ErrClosed, api.ErrSource, api.ErrTwice, api.ErrDown}
	rare := 1 + r.Intn(60)
	scripts := make([]script, r.Intn(7))
	for i := range scripts {
		s := &scripts[i]
		for range r.Intn(1 + r.Intn(40)) {
			s.l = append(s.l, one(r))
		}
		slices.SortFunc(s.l, cell.Compare)
		s.l = slices.CompactFunc(s.l, func(a, b api.Entry) bool { return cell.Compare(a, b) == 0 })
		if r.Intn(rare) == 0 {
			s.end = faults[r.Intn(len(faults))]
		}
		if len(s.l) == 0 {
			continue
		}
		k, n := r.Intn(len(s.l)), r.Intn(len(s.l))
		if r.Intn(rare) == 0 {
			s.l[k], s.l[n] = s.l[n], s.l[k]
		}
		if r.Intn(rare) == 0 {
			s.l = slices.Insert(s.l, k, s.l[n])
		}
		if r.Intn(rare) == 0 {
			s.l[k].Value = letters(r, r.Intn(3))
		}
	}
	return scripts
}
