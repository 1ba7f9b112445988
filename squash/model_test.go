package squash_test

import (
	"bytes"
	"math/rand"
	"slices"
	"strconv"
	"strings"
	"testing"

	"strata/api"
	"strata/disk"
	"strata/merge"
	"strata/retain"
	"strata/run"
	"strata/squash"
	"strata/tree"
)

func mustErr(t testing.TB, what string, got, want api.Errno) {
	t.Helper()
	if got != want {
		t.Fatalf("%s: %d, want %d", what, got, want)
	}
}

func same(a, b api.Entry) bool {
	return bytes.Equal(a.Row, b.Row) && a.Fam == b.Fam && bytes.Equal(a.Qual, b.Qual) &&
		a.Ts == b.Ts && a.Seq == b.Seq && a.Kind == b.Kind && bytes.Equal(a.Value, b.Value)
}

func sameAll(a, b []api.Entry) bool { return slices.EqualFunc(a, b, same) }

// kinds: their names, as chapter 3's examples write them.
var kinds = []string{"", "put", "husk", "cell", "col", "fam"}

// entry reads "put 9/16", an entry of row r, family 0, qualifier q; or "put a 9/16", one of row a.
func entry(s string) api.Entry {
	w := strings.Fields(s)
	e := api.Entry{Row: []byte("r"), Qual: []byte("q"), Kind: slices.Index(kinds, w[0])}
	if len(w) == 3 {
		e.Row = []byte(w[1])
	}
	ts, seq, _ := strings.Cut(w[len(w)-1], "/")
	e.Ts, _ = strconv.Atoi(ts)
	e.Seq, _ = strconv.Atoi(seq)
	switch e.Kind {
	case api.KPut:
		e.Value = []byte("v" + seq)
	case api.KFam:
		e.Qual = nil
	}
	return e
}

// list reads entries with a comma between.
func list(s string) []api.Entry {
	var l []api.Entry
	for _, w := range strings.Split(s, ", ") {
		if w != "" {
			l = append(l, entry(w))
		}
	}
	return l
}

// text is what list reads.
func text(l []api.Entry) string {
	var out []string
	for _, e := range l {
		place := ""
		if string(e.Row) != "r" {
			place = string(e.Row) + " "
		}
		out = append(out, kinds[e.Kind]+" "+place+strconv.Itoa(e.Ts)+"/"+strconv.Itoa(e.Seq))
	}
	return strings.Join(out, ", ")
}

// two is a schema of one family.
func two(ttl int) api.Schema { return api.Schema{Fams: []api.Family{{Name: "f", Max: 2, TTL: ttl}}} }

func options() api.Options { return api.Options{Block: 64, Bits: 8, Mem: 1000, Stall: 4} }

func newDisk(t testing.TB, capacity int) *disk.Disk {
	t.Helper()
	d, err := disk.New(capacity)
	mustErr(t, "disk.New", err, api.OK)
	return d
}

func open(t testing.TB, d *disk.Disk, s api.Schema) *tree.Tree {
	t.Helper()
	x, err := tree.Open(d, "t", s, options())
	mustErr(t, "Open", err, api.OK)
	return x
}

// flushed applies the entries of an index, at a clock and a low, and flushes them.
func flushed(t testing.TB, x *tree.Tree, clock, low int, entries string) {
	t.Helper()
	mustErr(t, "Apply", x.Apply(x.Applied()+1, clock, low, list(entries)...), api.OK)
	mustErr(t, "Flush", x.Flush(nil), api.OK)
}

// three is a tree with the runs 3, 2, 1.
func three(t testing.TB, ttl int) (*disk.Disk, *tree.Tree) {
	t.Helper()
	d := newDisk(t, 1<<20)
	x := open(t, d, two(ttl))
	flushed(t, x, 10, 0, "put 9/16, put 7/17, put a 5/18")
	flushed(t, x, 11, 1, "put 6/32, cell 7/33")
	flushed(t, x, 12, 2, "col 6/48, put b 8/49, fam a 3/50")
	return d, x
}

func start(t testing.TB, x *tree.Tree, major bool, picks ...int) *squash.Job {
	t.Helper()
	j, err := squash.Start(x, picks, major)
	if j == nil || err != api.OK {
		t.Fatalf("Start(%v, %v): %v, %d", picks, major, j, err)
	}
	return j
}

func pin(t testing.TB, x *tree.Tree) *tree.View {
	t.Helper()
	v, err := x.Pin()
	mustErr(t, "Pin", err, api.OK)
	return v
}

func take(t testing.TB, s merge.Source, err api.Errno) []api.Entry {
	t.Helper()
	mustErr(t, "a source", err, api.OK)
	l, err := merge.Take(s, 1<<30)
	mustErr(t, "Take", err, api.OK)
	return l
}

// walk is all that a view has.
func walk(t testing.TB, v *tree.View) []api.Entry {
	t.Helper()
	s, err := v.Walk(nil, nil)
	return take(t, s, err)
}

// entriesOf are those of the runs, in order.
func entriesOf(t testing.TB, x *tree.Tree, nums ...int) []api.Entry {
	t.Helper()
	v := pin(t, x)
	defer v.Release()
	var l []api.Entry
	for _, num := range nums {
		s, err := v.Source(num)
		l = append(l, take(t, s, err)...)
	}
	l, err := retain.Sort(l...)
	mustErr(t, "Sort", err, api.OK)
	return l
}

func numsOf(runs []api.RunMeta) []int {
	var nums []int
	for _, r := range runs {
		nums = append(nums, r.Num)
	}
	return nums
}

// shown is the runs, the newest first: "3: put 9/16; 1: put 7/17".
func shown(t testing.TB, x *tree.Tree) string {
	t.Helper()
	var out []string
	for _, num := range numsOf(x.Runs()) {
		out = append(out, strconv.Itoa(num)+": "+text(entriesOf(t, x, num)))
	}
	return strings.Join(out, "; ")
}

func sameFiles(a, b []api.File) bool {
	return slices.EqualFunc(a, b, func(a, b api.File) bool {
		return a.Name == b.Name && bytes.Equal(a.Data, b.Data) && a.Synced == b.Synced
	})
}

func names(l []api.File) []string {
	var out []string
	for _, f := range l {
		out = append(out, f.Name)
	}
	return out
}

// mustHaveEnded: whatever is asked of a job, and whichever way; and so many views are held.
func mustHaveEnded(t testing.TB, what string, x *tree.Tree, j *squash.Job, pins int) {
	t.Helper()
	closed := make(chan struct{})
	close(closed)
	for range 2 {
		for _, n := range []int{-1, 0, 1, 9} {
			if all, err := j.Step(n); all || err != api.ErrJob {
				t.Fatalf("%s: Step(%d): %v, %d", what, n, all, err)
			}
			for _, done := range []chan struct{}{nil, closed, make(chan struct{})} {
				if all, err := j.Run(done, n); all || err != api.ErrJob {
					t.Fatalf("%s: Run(%d): %v, %d", what, n, all, err)
				}
			}
		}
		if x, err := j.Finish(); x != (api.Squashed{}) || err != api.ErrJob {
			t.Fatalf("%s: Finish: %+v, %d", what, x, err)
		}
		j.Abort()
	}
	if x.Pins() != pins {
		t.Fatalf("%s: %d views are held, want %d", what, x.Pins(), pins)
	}
}

// written is a run's bytes.
func written(t testing.TB, index, low, clock int, l ...api.Entry) []byte {
	t.Helper()
	b, err := run.Write(api.RunOpts{Block: 64, Bits: 8, Index: index, Low: low, Clock: clock}, l...)
	mustErr(t, "run.Write", err, api.OK)
	return b
}

// sum is all that was dropped.
func sum(d api.Dropped) int { return d.Older + d.Masked + d.Expired + d.Above + d.Marks }

// drawSchema has few families, of which each keeps little.
func drawSchema(r *rand.Rand) api.Schema {
	var s api.Schema
	for i := range 1 + r.Intn(2) {
		s.Fams = append(s.Fams, api.Family{Name: "f" + strconv.Itoa(i), Max: 1 + r.Intn(3), TTL: r.Intn(2) * (3 + r.Intn(12))})
	}
	return s
}

// drawCommand is the entries of an index, of few columns, so that they meet.
func drawCommand(r *rand.Rand, fams, clock, low, index int) []api.Entry {
	var l []api.Entry
	drawn := []int{api.KPut, api.KPut, api.KPut, api.KPut, api.KCell, api.KCell, api.KCol, api.KFam}
	for _, op := range r.Perm(16)[:r.Intn(6)] {
		e := api.Entry{Row: []byte{"ab"[r.Intn(2)]}, Fam: r.Intn(fams), Qual: []byte{"pq"[r.Intn(2)]}, Seq: 16*index + op, Kind: drawn[r.Intn(len(drawn))]}
		e.Ts = low + 1 + r.Intn(max(1, clock-low)+3)
		switch e.Kind {
		case api.KPut:
			e.Value = []byte(strconv.Itoa(e.Seq))
		case api.KFam:
			e.Qual = nil
		}
		l = append(l, e)
	}
	return l
}
