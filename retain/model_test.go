package retain_test

import (
	"bytes"
	"math/rand"
	"slices"
	"strconv"
	"strings"
	"testing"

	"strata/api"
	"strata/cell"
)

// kinds: their names, as the chapter's examples write them.
var kinds = []string{"", "put", "husk", "cell", "col", "fam"}

// entry reads "put 9/1", an entry of row r, family 0, qualifier q; or "put a.1.x 9/1", one of row a, family 1, qualifier x.
func entry(s string) api.Entry {
	w := strings.Fields(s)
	e := api.Entry{Row: []byte("r"), Qual: []byte("q"), Kind: slices.Index(kinds, w[0])}
	if len(w) == 3 {
		place := strings.Split(w[1], ".")
		e.Row, e.Fam, e.Qual = []byte(place[0]), number(place[1]), []byte(place[2])
	}
	ts, seq, _ := strings.Cut(w[len(w)-1], "/")
	e.Ts, e.Seq = number(ts), number(seq)
	if e.Kind == api.KPut {
		e.Value = []byte("v" + seq)
	}
	if e.Kind == api.KFam {
		e.Qual = nil
	}
	return e
}

func number(s string) int {
	n, err := strconv.Atoi(s)
	if err != nil {
		panic(err)
	}
	return n
}

// list reads entries with a comma between.
func list(s string) []api.Entry {
	var l []api.Entry
	for _, w := range strings.Split(s, ", ") {
		if w != "" {
			l = append(l, entry(w))
		}
	}
	return l
}

// text is what list reads, with the value where it is another one.
func text(l []api.Entry) string {
	var out []string
	for _, e := range l {
		place := ""
		if string(e.Row) != "r" || e.Fam != 0 || string(e.Qual) != "q" && e.Kind != api.KFam {
			place = string(e.Row) + "." + strconv.Itoa(e.Fam) + "." + string(e.Qual) + " "
		}
		s := kinds[e.Kind] + " " + place + strconv.Itoa(e.Ts) + "/" + strconv.Itoa(e.Seq)
		if plain := entry(s); !bytes.Equal(e.Value, plain.Value) {
			s += " with value " + strconv.Quote(string(e.Value))
		}
		out = append(out, s)
	}
	return strings.Join(out, ", ")
}

func fams(f ...api.Family) api.Schema {
	for i := range f {
		f[i].Name = string(rune('a' + i))
	}
	return api.Schema{Fams: f}
}

// example is the schema of the chapter's examples.
func example() api.Schema { return fams(api.Family{Max: 2, TTL: 10}) }

func same(a, b api.Entry) bool {
	return cell.Compare(a, b) == 0 && bytes.Equal(a.Value, b.Value)
}

func sameLists(a, b []api.Entry) bool { return slices.EqualFunc(a, b, same) }

func join(l ...[]api.Entry) []api.Entry { return slices.Concat(l...) }

func shuffled(r *rand.Rand, l []api.Entry) []api.Entry {
	l = slices.Clone(l)
	r.Shuffle(len(l), func(i, j int) { l[i], l[j] = l[j], l[i] })
	return l
}

// model is the chapter's sections "The core" and "What a squash leaves", asked of one entry at a time out of the whole list (in which the same entry stands once), with no walk at all.
type model struct {
	s     api.Schema
	clock int
	l     []api.Entry
}

func (m model) where(holds func(api.Entry) bool) []api.Entry {
	var out []api.Entry
	for _, e := range m.l {
		if holds(e) {
			out = append(out, e)
		}
	}
	return out
}

func isVersion(e api.Entry) bool { return e.Kind <= api.KCell }

func sameFamily(a, b api.Entry) bool { return bytes.Equal(a.Row, b.Row) && a.Fam == b.Fam }

func sameColumn(a, b api.Entry) bool { return sameFamily(a, b) && bytes.Equal(a.Qual, b.Qual) }

func (m model) group(e api.Entry) []api.Entry {
	return m.where(func(o api.Entry) bool { return isVersion(o) && sameColumn(o, e) && o.Ts == e.Ts })
}

// decides: of a version.
func (m model) decides(e api.Entry) bool {
	for _, o := range m.group(e) {
		if o.Seq > e.Seq {
			return false
		}
	}
	return true
}

// state of the group that e decides: KPut is live, KHusk a husk, KCell nothing.
func (m model) state(e api.Entry) int {
	if e.Kind == api.KCell {
		for _, o := range m.group(e) {
			if o.Kind != api.KCell {
				return api.KHusk
			}
		}
	}
	return e.Kind
}

func (m model) mask(e api.Entry) int {
	n := 0
	for _, o := range m.l {
		if o.Kind == api.KCol && sameColumn(o, e) || o.Kind == api.KFam && sameFamily(o, e) {
			n = max(n, o.Ts)
		}
	}
	return n
}

func (m model) isMasked(e api.Entry) bool { return e.Ts <= m.mask(e) }

func (m model) isExpired(e api.Entry) bool {
	ttl := m.s.Fams[e.Fam].TTL
	return ttl > 0 && e.Ts+ttl <= m.clock
}

func (m model) isIn(e api.Entry) bool { return !m.isMasked(e) && !m.isExpired(e) }

// ranked: it decides a group that is in, and live or a husk.
func (m model) ranked(e api.Entry) bool {
	return isVersion(e) && m.decides(e) && m.isIn(e) && m.state(e) != api.KCell
}

func (m model) isKept(e api.Entry) bool {
	newer := func(o api.Entry) bool { return o.Ts > e.Ts && sameColumn(o, e) && m.ranked(o) }
	return m.ranked(e) && len(m.where(newer)) < m.s.Fams[e.Fam].Max
}

func (m model) isVisible(e api.Entry) bool { return m.isKept(e) && e.Kind == api.KPut }

func inOrder(l []api.Entry) []api.Entry {
	l = slices.Clone(l)
	slices.SortFunc(l, cell.Compare)
	return l
}

func (m model) vis() []api.Entry { return inOrder(m.where(m.isVisible)) }

func (m model) read(t, n int) []api.Entry {
	at := m.where(func(e api.Entry) bool { return e.Ts <= t && m.isVisible(e) })
	var out []api.Entry
	for _, e := range at {
		newer := 0
		for _, o := range at {
			if sameColumn(o, e) && o.Ts > e.Ts {
				newer++
			}
		}
		if newer < n {
			out = append(out, e)
		}
	}
	return inOrder(out)
}

func (m model) top() int {
	n := 0
	for _, e := range m.where(m.ranked) {
		n = max(n, e.Ts)
	}
	return n
}

// isTopMark: a tombstone that a minor squash leaves.
func (m model) isTopMark(e api.Entry) bool {
	for _, o := range m.l {
		rival := o.Kind == e.Kind && sameColumn(o, e) && (o.Ts > e.Ts || o.Ts == e.Ts && o.Seq > e.Seq)
		higher := e.Kind == api.KCol && o.Kind == api.KFam && sameFamily(o, e) && o.Ts >= e.Ts
		if rival || higher {
			return false
		}
	}
	return true
}

// stays: whether a squash leaves something of e.
func (m model) stays(major bool, low int, e api.Entry) bool {
	if !isVersion(e) {
		return m.isTopMark(e) && !(major && e.Ts <= low)
	}
	isNothing := m.decides(e) && m.isIn(e) && m.state(e) == api.KCell
	return m.isKept(e) || isNothing && !major
}

func (m model) squash(major bool, low int) []api.Entry {
	var out []api.Entry
	for _, e := range m.l {
		if m.stays(major, low, e) {
			if isVersion(e) {
				e.Kind = m.state(e)
			}
			out = append(out, e)
		}
	}
	return inOrder(out)
}

// dropped: what a filter counts, if no entry comes twice.
func (m model) dropped(major bool, low int) api.Dropped {
	var d api.Dropped
	for _, e := range m.l {
		switch {
		case m.stays(major, low, e):
		case !isVersion(e):
			d.Marks++
		case !m.decides(e):
			d.Older++
		case m.isMasked(e):
			d.Masked++
		case m.isExpired(e):
			d.Expired++
		case m.ranked(e):
			d.Above++
		default:
			d.Marks++
		}
	}
	return d
}

// drawn: what a test is about to ask of a list.
type drawn struct {
	s     api.Schema
	clock int
	major bool
	low   int
	t, n  int
	l     []api.Entry
}

func draw(r *rand.Rand) drawn {
	return drawn{
		s:     fams(drawFamily(r), drawFamily(r)),
		clock: r.Intn(14), major: r.Intn(2) == 0, low: r.Intn(10), t: r.Intn(12), n: 1 + r.Intn(4),
		l: drawEntries(r, r.Intn(30), 0),
	}
}

func drawFamily(r *rand.Rand) api.Family {
	return api.Family{Max: 1 + r.Intn(3), TTL: []int{0, 0, 1, 3, 6, 20}[r.Intn(6)]}
}

// drawEntries: some in no order, with Seqs of their own from a number on. Few places and times, so that they meet.
func drawEntries(r *rand.Rand, count, from int) []api.Entry {
	var l []api.Entry
	wide := r.Intn(3)
	for i := range count {
		place := "a.0.x"
		if wide > 0 {
			place = []string{"a", "ab", "b"}[r.Intn(1+wide)] + "." + strconv.Itoa(r.Intn(2)) + "." + []string{"", "x", "xy"}[r.Intn(1+wide)]
		}
		kind := kinds[[]int{1, 1, 1, 1, 2, 3, 3, 4, 5}[r.Intn(9)]]
		l = append(l, entry(kind+" "+place+" "+strconv.Itoa(1+r.Intn(10))+"/"+strconv.Itoa(from+i)))
	}
	return shuffled(r, l)
}

func (d drawn) model() model { return model{d.s, d.clock, d.l} }

// doubled is the list with some of its entries twice, in no order.
func (d drawn) doubled(r *rand.Rand) []api.Entry {
	l := slices.Clone(d.l)
	for _, e := range d.l {
		if r.Intn(4) == 0 {
			l = append(l, e)
		}
	}
	return shuffled(r, l)
}

// must hands on an answer that was given without an error.
func must[T any](t *testing.T) func(T, api.Errno) T {
	return func(x T, err api.Errno) T {
		t.Helper()
		if err != api.OK {
			t.Fatalf("error %d", err)
		}
		return x
	}
}
