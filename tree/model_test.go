package tree_test

import (
	"bytes"
	"maps"
	"math/rand"
	"slices"
	"testing"

	"strata/api"
	"strata/cell"
	"strata/disk"
	"strata/manifest"
	"strata/merge"
	"strata/run"
	"strata/tree"
)

// one and options are the schema and the options of the chapter's examples.
func one() api.Schema { return api.Schema{Fams: []api.Family{{Name: "f", Max: 2}}} }

func options() api.Options { return api.Options{Block: 256, Bits: 8, Mem: 1000, Stall: 4} }

// families is a schema of so many.
func families(n int) api.Schema {
	var s api.Schema
	for i := range n {
		s.Fams = append(s.Fams, api.Family{Name: "f" + string(rune('a'+i)), Max: 1 + i, TTL: i})
	}
	return s
}

// p is the put of the chapter's examples.
func p(row string, ts, index int) api.Entry {
	return api.Entry{Row: []byte(row), Qual: []byte("q"), Ts: ts, Seq: 16 * index, Kind: api.KPut, Value: []byte("x")}
}

func with(e api.Entry, change func(e *api.Entry)) api.Entry {
	change(&e)
	return e
}

func same(a, b api.Entry) bool {
	return bytes.Equal(a.Row, b.Row) && a.Fam == b.Fam && bytes.Equal(a.Qual, b.Qual) &&
		a.Ts == b.Ts && a.Seq == b.Seq && a.Kind == b.Kind && bytes.Equal(a.Value, b.Value)
}

func sameAll(a, b []api.Entry) bool { return slices.EqualFunc(a, b, same) }

func sameRun(a, b api.RunMeta) bool {
	return a.Num == b.Num && a.Count == b.Count && a.Index == b.Index && a.Low == b.Low && a.Clock == b.Clock &&
		a.Bytes == b.Bytes && bytes.Equal(a.First, b.First) && bytes.Equal(a.Last, b.Last)
}

func mustErr(t testing.TB, what string, got, want api.Errno) {
	t.Helper()
	if got != want {
		t.Fatalf("%s: %d, want %d", what, got, want)
	}
}

func newDisk(t testing.TB, capacity int) *disk.Disk {
	t.Helper()
	d, err := disk.New(capacity)
	mustErr(t, "disk.New", err, api.OK)
	return d
}

func load(t testing.TB, capacity int, files ...api.File) *disk.Disk {
	t.Helper()
	d, err := disk.Load(capacity, files...)
	mustErr(t, "disk.Load", err, api.OK)
	return d
}

// file is one whose bytes are synced.
func file(name string, data []byte) api.File {
	return api.File{Name: name, Data: data, Synced: len(data)}
}

func open(t testing.TB, d *disk.Disk, prefix string) *tree.Tree {
	t.Helper()
	x, err := tree.Open(d, prefix, one(), options())
	if x == nil || err != api.OK {
		t.Fatalf("Open(%q): %v, %d", prefix, x, err)
	}
	return x
}

func pin(t testing.TB, x *tree.Tree) *tree.View {
	t.Helper()
	v, err := x.Pin()
	if v == nil || err != api.OK {
		t.Fatalf("Pin: %v, %d", v, err)
	}
	return v
}

func image(t testing.TB, x *tree.Tree) api.Image {
	t.Helper()
	i, err := x.Image()
	mustErr(t, "Image", err, api.OK)
	return i
}

// all asks a source up to its end, which it must tell again and again.
func all(t testing.TB, s merge.Source, err api.Errno) []api.Entry {
	t.Helper()
	mustErr(t, "a source", err, api.OK)
	var out []api.Entry
	for {
		e, more, err := s.Next()
		mustErr(t, "Next", err, api.OK)
		if !more {
			break
		}
		out = append(out, e)
	}
	for range 2 {
		if e, more, err := s.Next(); more || err != api.OK || !same(e, api.Entry{}) {
			t.Fatalf("behind the end: %+v, %v, %d", e, more, err)
		}
	}
	return out
}

func mustTell(t testing.TB, what string, got, want []api.Entry) {
	t.Helper()
	if !sameAll(got, want) {
		t.Fatalf("%s: %+v, want %+v", what, got, want)
	}
}

func walk(t testing.TB, v *tree.View, from, to string) []api.Entry {
	t.Helper()
	s, err := v.Walk([]byte(from), []byte(to))
	return all(t, s, err)
}

func source(t testing.TB, v *tree.View, num int) []api.Entry {
	t.Helper()
	s, err := v.Source(num)
	return all(t, s, err)
}

func rows(t testing.TB, v *tree.View, from, to string, back bool) []string {
	t.Helper()
	seq, err := v.Rows([]byte(from), []byte(to), back)
	mustErr(t, "Rows", err, api.OK)
	return collect(seq)
}

func collect(seq func(yield func([]byte) bool)) []string {
	var out []string
	for row := range seq {
		out = append(out, string(row))
	}
	return out
}

// piece is a run of the model.
type piece struct {
	meta api.RunMeta
	l    []api.Entry
	data []byte
}

// pieceOf writes a run; what run does is its own chapter's matter.
func pieceOf(t testing.TB, o api.Options, num, index, low, clock int, l []api.Entry) piece {
	t.Helper()
	data, err := run.Write(api.RunOpts{Block: o.Block, Bits: o.Bits, Index: index, Low: low, Clock: clock}, l...)
	mustErr(t, "run.Write", err, api.OK)
	r, err := run.Open(data)
	mustErr(t, "run.Open", err, api.OK)
	m := r.Meta()
	m.Num = num
	return piece{m, l, data}
}

// model is what a tree must be: plain lists.
type model struct {
	prefix              string
	options             api.Options
	gen, next           int
	flushed             int
	sealedClock, sealed int // the version's Clock and Low
	state               []byte
	runs                []piece
	mem                 []api.Entry // in order
	applied, clock, low int
}

func newModel(prefix string, o api.Options) model {
	return model{prefix: prefix, options: o, next: 1, clock: 1, sealedClock: 1}
}

// inOrder is sorted by keys, which is THE ORDER.
func inOrder(l []api.Entry) []api.Entry {
	l = slices.Clone(l)
	slices.SortFunc(l, func(a, b api.Entry) int {
		x, _ := cell.Key(a)
		y, _ := cell.Key(b)
		return bytes.Compare(x, y)
	})
	return l
}

// apply, flush, replace and install are of what is not refused; each answers the model behind it.
func (m model) apply(index, clock, low int, l []api.Entry) model {
	m.mem = inOrder(slices.Concat(m.mem, l))
	m.applied, m.clock, m.low = index, clock, low
	return m
}

func (m model) flush(t testing.TB, state []byte) model {
	if len(m.mem) > 0 {
		m.runs = slices.Concat([]piece{pieceOf(t, m.options, m.next, m.applied, m.low, m.clock, m.mem)}, m.runs)
		m.next++
	}
	m.gen++
	m.flushed, m.sealedClock, m.sealed, m.state, m.mem = m.applied, m.clock, m.low, bytes.Clone(state), nil
	return m
}

func (m model) replace(t testing.TB, olds []int, l []api.Entry) model {
	var runs []piece
	first := true
	for _, r := range m.runs {
		if !slices.Contains(olds, r.meta.Num) {
			runs = append(runs, r)
		} else if first && len(l) > 0 {
			runs = append(runs, pieceOf(t, m.options, m.next, r.meta.Index, r.meta.Low, r.meta.Clock, l))
			m.next++
			first = false
		}
	}
	m.gen++
	m.runs = runs
	return m
}

func (m model) install(t testing.TB, x api.Image) model {
	m.runs = nil
	for i, data := range x.Runs {
		r, err := run.Open(data)
		mustErr(t, "run.Open", err, api.OK)
		l, err := merge.Take(r.All(), 1<<30)
		mustErr(t, "a run of an image", err, api.OK)
		meta := r.Meta()
		meta.Num = m.next + len(x.Runs) - 1 - i
		m.runs = append(m.runs, piece{meta, l, bytes.Clone(data)})
	}
	m.next += len(x.Runs)
	m.gen++
	m.flushed, m.sealedClock, m.sealed, m.state, m.mem = x.Index, x.Clock, x.Low, bytes.Clone(x.State), nil
	m.applied, m.clock, m.low = x.Index, x.Clock, x.Low
	return m
}

// reopened is what a new tree over the same files is.
func (m model) reopened() model {
	m.mem = nil
	m.applied, m.clock, m.low = m.flushed, m.sealedClock, m.sealed
	return m
}

func (m model) image() api.Image {
	x := api.Image{Index: m.flushed, Clock: m.sealedClock, Low: m.sealed, State: m.state}
	for _, r := range m.runs {
		x.Runs = append(x.Runs, r.data)
	}
	return x
}

func (m model) entries() []api.Entry {
	l := m.mem
	for _, r := range m.runs {
		l = slices.Concat(l, r.l)
	}
	return inOrder(l)
}

func (m model) metas() []api.RunMeta {
	var out []api.RunMeta
	for _, r := range m.runs {
		out = append(out, r.meta)
	}
	return out
}

func (m model) nums() []int {
	var out []int
	for _, r := range m.metas() {
		out = append(out, r.Num)
	}
	return out
}

// files are those of the version, and of the pieces of views that are in none.
func (m model) files(t testing.TB, held ...model) []api.File {
	t.Helper()
	named := map[string][]byte{}
	if m.gen > 0 {
		b, err := manifest.Encode(api.Version{Gen: m.gen, Flushed: m.flushed, Next: m.next, Low: m.sealed, Clock: m.sealedClock, State: m.state, Runs: m.metas()})
		mustErr(t, "Encode", err, api.OK)
		named[m.prefix+"MANIFEST"] = b
	}
	for _, x := range append(held, m) {
		for _, r := range x.runs {
			named[manifest.RunName(m.prefix, r.meta.Num)] = r.data
		}
	}
	var out []api.File
	for _, name := range slices.Sorted(maps.Keys(named)) {
		out = append(out, file(name, named[name]))
	}
	return out
}

func sameFiles(a, b []api.File) bool {
	return slices.EqualFunc(a, b, func(a, b api.File) bool {
		return a.Name == b.Name && bytes.Equal(a.Data, b.Data) && a.Synced == b.Synced
	})
}

// mustHave: the files of the disk under the model's prefix are just these.
func mustHave(t testing.TB, what string, d *disk.Disk, m model, held ...model) {
	t.Helper()
	var got []api.File
	for _, f := range d.Files() {
		if bytes.HasPrefix([]byte(f.Name), []byte(m.prefix)) {
			got = append(got, f)
		}
	}
	if want := m.files(t, held...); !sameFiles(got, want) {
		t.Fatalf("%s: files %q, want %q", what, names(got), names(want))
	}
}

func names(l []api.File) []string {
	var out []string
	for _, f := range l {
		out = append(out, f.Name)
	}
	return out
}

func packed(l []api.Entry) int {
	n := 0
	for _, e := range l {
		b, _ := cell.Pack(e)
		n += len(b)
	}
	return n
}

// mustBe: all that a tree tells is as the model has it.
func mustBe(t testing.TB, what string, x *tree.Tree, m model) {
	t.Helper()
	if x.Applied() != m.applied || x.Clock() != m.clock || x.Low() != m.low || x.Flushed() != m.flushed || !bytes.Equal(x.State(), m.state) {
		t.Fatalf("%s: Applied %d, Clock %d, Low %d, Flushed %d, State %q, want %+v", what, x.Applied(), x.Clock(), x.Low(), x.Flushed(), x.State(), m)
	}
	if c, l := x.Sealed(); c != m.sealedClock || l != m.sealed {
		t.Fatalf("%s: Sealed %d, %d, want %d, %d", what, c, l, m.sealedClock, m.sealed)
	}
	if !slices.EqualFunc(x.Runs(), m.metas(), sameRun) {
		t.Fatalf("%s: Runs %+v, want %+v", what, x.Runs(), m.metas())
	}
	size := packed(m.mem)
	if n, b := x.Mem(); n != len(m.mem) || b != size {
		t.Fatalf("%s: Mem %d, %d, want %d, %d", what, n, b, len(m.mem), size)
	}
	if x.Full() != (size >= m.options.Mem) || x.Stalled() != (len(m.runs) >= m.options.Stall || size >= 4*m.options.Mem) {
		t.Fatalf("%s: Full %v, Stalled %v of %d bytes and %d runs", what, x.Full(), x.Stalled(), size, len(m.runs))
	}
}

func mustBeImage(t testing.TB, what string, x api.Image, m model) {
	t.Helper()
	want := m.image()
	if x.Index != want.Index || x.Clock != want.Clock || x.Low != want.Low || !bytes.Equal(x.State, want.State) || !slices.EqualFunc(x.Runs, want.Runs, bytes.Equal) {
		t.Fatalf("%s: an image of index %d with %d runs, want %d with %d", what, x.Index, len(x.Runs), want.Index, len(want.Runs))
	}
}

// mustSee: a view tells just what the model had when it was pinned.
func mustSee(t testing.TB, what string, v *tree.View, m model) {
	t.Helper()
	if v.Index() != m.applied || v.Clock() != m.clock {
		t.Fatalf("%s: Index %d, Clock %d, want %d, %d", what, v.Index(), v.Clock(), m.applied, m.clock)
	}
	mustTell(t, what+": Walk", walk(t, v, "", ""), m.entries())
	mustTell(t, what+": the memtable", source(t, v, 0), m.mem)
	for _, r := range m.runs {
		mustTell(t, what+": a run", source(t, v, r.meta.Num), r.l)
	}
}

func letters(r *rand.Rand, n int) []byte {
	b := make([]byte, n)
	for i := range b {
		b[i] = "\x00\x01ab\xfe\xff"[r.Intn(6)]
	}
	return b
}

// drawEntry is one that may be applied, or stand in a run.
func drawEntry(r *rand.Rand, fams, low, seq int) api.Entry {
	kinds := []int{api.KPut, api.KPut, api.KPut, api.KCell, api.KCol, api.KFam}
	e := api.Entry{Row: letters(r, 1+r.Intn(2)), Fam: r.Intn(fams), Qual: letters(r, r.Intn(2)), Ts: low + 1 + r.Intn(9), Seq: seq, Kind: kinds[r.Intn(len(kinds))]}
	switch e.Kind {
	case api.KPut:
		e.Value = letters(r, r.Intn(20)*r.Intn(3))
	case api.KFam:
		e.Qual = nil
	}
	return e
}

// drawCommand is the entries of an index.
func drawCommand(r *rand.Rand, fams, low, index int) []api.Entry {
	var l []api.Entry
	for _, op := range r.Perm(16)[:r.Intn(4)*r.Intn(5)] {
		l = append(l, drawEntry(r, fams, low, 16*index+op))
	}
	return l
}

// drawSome leaves some entries out.
func drawSome(r *rand.Rand, l []api.Entry) []api.Entry {
	var out []api.Entry
	stay := r.Intn(4)
	for _, e := range l {
		if r.Intn(3) < stay {
			out = append(out, e)
		}
	}
	return out
}

// drawImage is one that a tree may install.
func drawImage(t testing.TB, r *rand.Rand, o api.Options, fams int, m model) api.Image {
	x := api.Image{State: letters(r, r.Intn(5))}
	clock, low := 1, 0
	for range r.Intn(4) {
		clock += r.Intn(3)
		low = min(clock-1, low+r.Intn(3))
		index := x.Index + 1 + r.Intn(3)
		var l []api.Entry
		for i := x.Index + 1; i <= index; i++ {
			l = append(l, drawCommand(r, fams, low, i)...)
		}
		x.Index = index
		if len(l) > 0 {
			x.Runs = slices.Insert(x.Runs, 0, pieceOf(t, o, 0, index, low, clock, inOrder(l)).data)
		}
	}
	x.Index = max(x.Index, m.applied+1) + r.Intn(3)
	x.Clock = max(clock, m.clock) + r.Intn(3)
	x.Low = min(x.Clock-1, max(low, m.low)+r.Intn(2))
	return x
}
