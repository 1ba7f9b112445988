package query_test

import (
	"bytes"
	"math/rand"
	"slices"
	"strconv"
	"testing"

	"strata/api"
	"strata/disk"
	"strata/query"
	"strata/retain"
	"strata/squash"
	"strata/tree"
)

// 13.8, 13.9: the rows of all pages, whatever their sizes, are those of one page; backward they are the same the other way round.
func TestPagesAreTheWhole(t *testing.T) {
	r := rand.New(rand.NewSource(138))
	most := 0
	for i := range 4000 {
		s := []api.Schema{two, three}[i%2]
		q := drawQuestion(r, s)
		rows := drawRows(r, s, 30)
		whole := allPages(t, s, q, 9, rows, func() int { return 1000 })
		for _, size := range []func() int{func() int { return 1 }, func() int { return 2 }, func() int { return 1 + r.Intn(7) }, func() int { return max(1, len(whole)) }} {
			if got := allPages(t, s, q, 9, rows, size); !slices.EqualFunc(got, whole, sameRow) {
				t.Fatalf("%+v: %+v, want %+v", q, got, whole)
			}
		}
		q.Reverse = !q.Reverse
		turned := allPages(t, s, q, 9, rows, func() int { return 1 + r.Intn(5) })
		slices.Reverse(turned)
		if !slices.EqualFunc(turned, whole, sameRow) {
			t.Fatalf("%+v: %+v, the other way %+v", q, turned, whole)
		}
		most = max(most, len(whole))
	}
	if most < 15 {
		t.Errorf("no answer has more than %d rows", most)
	}
}

// 13.8: a page ends at MaxRows rows, and the next one goes on there.
func TestGreatestPage(t *testing.T) {
	var names []string
	for i := range 2500 {
		names = append(names, strconv.Itoa(10000+i))
	}
	rows := simple(names...)
	for _, reverse := range []bool{false, true} {
		q := asked(size(1000))
		q.Reverse = reverse
		for _, want := range []int{1000, 1000, 500} {
			p, err := query.Run(two, q, 9, from(t, q, rows))
			if len(p.Rows) != want || p.Done != (want == 500) || err != api.OK {
				t.Fatalf("%d rows, %v, %d", len(p.Rows), p.Done, err)
			}
			q.Token = p.Token
		}
	}
}

// 13.8: rows of the greatest length, of which one has only longer ones behind it that no row may be.
func TestPagesOfTheLongestRows(t *testing.T) {
	long := bytes.Repeat([]byte("r"), 256)
	last := bytes.Repeat([]byte{255}, 256)
	rows := simple("\x00", string(long[:255]), string(long), string(long[:255])+"s", "s", string(last[:255]), string(last))
	for _, reverse := range []bool{false, true} {
		q := asked()
		q.Reverse = reverse
		for n := 1; n < 9; n++ {
			if got := allPages(t, two, q, 9, rows, func() int { return n }); len(got) != len(rows) {
				t.Errorf("%d rows in pages of %d", len(got), n)
			}
		}
	}
}

// 13.8: where rows come and go meanwhile, no row comes twice, none is passed over that was there all the time, and the pages so far stay.
func TestRowsThatComeAndGo(t *testing.T) {
	r := rand.New(rand.NewSource(1382))
	for range 3000 {
		q := drawQuestion(r, two)
		rows := drawRows(r, two, 25)
		always := map[string]int{}
		for _, row := range allPages(t, two, q, 9, rows, func() int { return 1000 }) {
			always[string(row.Row)]++
		}
		came := map[string]int{}
		for {
			q.Rows = 1 + r.Intn(3)
			p, err := query.Run(two, q, 9, from(t, q, rows))
			mustErr(t, "Run", err, api.OK)
			for _, row := range p.Rows {
				came[string(row.Row)]++
			}
			if p.Done {
				break
			}
			q.Token = p.Token
			rows = change(r, rows, always)
		}
		for name, n := range came {
			if n > 1 {
				t.Fatalf("%q came %d times", name, n)
			}
		}
		for name := range always {
			if came[name] == 0 {
				t.Fatalf("%+v: %q was passed over", q, name)
			}
		}
	}
}

// change drops rows, changes the cells of others and lets new ones come; what it drops or changes is not always there.
func change(r *rand.Rand, rows []api.Row, always map[string]int) []api.Row {
	out := slices.DeleteFunc(slices.Clone(rows), func(row api.Row) bool {
		if r.Intn(6) > 0 {
			return false
		}
		delete(always, string(row.Row))
		return true
	})
	for _, row := range drawRows(r, two, 4) {
		i, there := slices.BinarySearchFunc(out, row.Row, func(a api.Row, name []byte) int { return bytes.Compare(a.Row, name) })
		if there {
			delete(always, string(row.Row))
			out[i] = row
			continue
		}
		out = slices.Insert(out, i, row)
	}
	return out
}

// viewed is a source over a view of a tree, as a question's owner makes one.
type viewed struct {
	t      *testing.T
	view   *tree.View
	schema api.Schema
	at, n  int
	names  [][]byte
}

func newViewed(t *testing.T, x *tree.Tree, s api.Schema, q api.Query) *viewed {
	t.Helper()
	v, err := x.Pin()
	mustErr(t, "Pin", err, api.OK)
	start, is, err := query.Start(q)
	mustErr(t, "Start", err, api.OK)
	at, err := query.At(q, x.Clock())
	mustErr(t, "At", err, api.OK)
	var low, high []byte
	if is && q.Reverse {
		high = start
	} else if is {
		low = start
	}
	rows, err := v.Rows(low, high, q.Reverse)
	mustErr(t, "Rows", err, api.OK)
	return &viewed{t, v, s, at, q.N, slices.Collect(rows)}
}

func (v *viewed) Next() (api.Row, bool, api.Errno) {
	if len(v.names) == 0 {
		return api.Row{}, false, api.OK
	}
	row := api.Row{Row: v.names[0]}
	v.names = v.names[1:]
	src, err := v.view.Walk(row.Row, append(bytes.Clone(row.Row), 0))
	mustErr(v.t, "Walk", err, api.OK)
	var entries []api.Entry
	for {
		e, more, err := src.Next()
		mustErr(v.t, "Next", err, api.OK)
		if !more {
			break
		}
		entries = append(entries, e)
	}
	seen, err := retain.Read(v.schema, v.view.Clock(), v.at, v.n, entries...)
	mustErr(v.t, "Read", err, api.OK)
	for _, e := range seen {
		row.Cells = append(row.Cells, api.Cell{Fam: e.Fam, Qual: e.Qual, Ts: e.Ts, Value: e.Value})
	}
	return row, true, api.OK
}

// 13.8: over a tree that is written, flushed and squashed between the pages, they are what one page was at the first one's time.
func TestPagesOfATree(t *testing.T) {
	s := api.Schema{Fams: []api.Family{{Name: "a", Max: 16}, {Name: "b", Max: 16}}}
	for seed := range 60 {
		r := rand.New(rand.NewSource(int64(seed)))
		d, err := disk.New(1 << 24)
		mustErr(t, "disk", err, api.OK)
		x, err := tree.Open(d, "t.", s, api.Options{Block: 256, Bits: 10, Mem: 1 << 16, Stall: 32})
		mustErr(t, "Open", err, api.OK)
		for range 40 {
			put(t, r, x)
		}
		q := drawQuestion(r, s)
		q.Time = 0
		q.Rows = 1000
		whole := ask(t, x, s, q)
		var got []api.Row
		for {
			q.Rows = 1 + r.Intn(3)
			p := ask(t, x, s, q)
			got = append(got, p.Rows...)
			if p.Done {
				break
			}
			q.Token = p.Token
			put(t, r, x)
			tidy(t, r, x)
		}
		if !slices.EqualFunc(got, whole.Rows, sameRow) {
			t.Fatalf("seed %d: %+v, want %+v", seed, got, whole.Rows)
		}
	}
}

func ask(t *testing.T, x *tree.Tree, s api.Schema, q api.Query) api.Page {
	t.Helper()
	src := newViewed(t, x, s, q)
	defer src.view.Release()
	p, err := query.Run(s, q, x.Clock(), src)
	mustErr(t, "Run", err, api.OK)
	return p
}

// put writes a version at a time that nobody has asked for yet.
func put(t *testing.T, r *rand.Rand, x *tree.Tree) {
	t.Helper()
	index, clock := x.Applied()+1, x.Clock()+1
	c := drawCell(r, two)
	e := api.Entry{Row: []byte(drawName(r)), Fam: c.Fam, Qual: c.Qual, Ts: clock, Seq: 16 * index, Kind: api.KPut, Value: c.Value}
	mustErr(t, "Apply", x.Apply(index, clock, x.Low(), e), api.OK)
}

// tidy flushes, and squashes all runs, now and then.
func tidy(t *testing.T, r *rand.Rand, x *tree.Tree) {
	t.Helper()
	if r.Intn(2) == 0 {
		mustErr(t, "Flush", x.Flush(nil), api.OK)
	}
	if r.Intn(3) == 0 && len(x.Runs()) > 1 {
		var picks []int
		for _, m := range x.Runs() {
			picks = append(picks, m.Num)
		}
		j, err := squash.Start(x, picks, true)
		mustErr(t, "Start", err, api.OK)
		_, err = j.Finish()
		mustErr(t, "Finish", err, api.OK)
	}
}

// 13.8: a first page's time holds for the next ones, whatever the clock is by then.
func TestTheTimeOfTheFirstPage(t *testing.T) {
	q := asked()
	p, err := query.Run(two, q, 5, &list{rows: simple("r1")})
	mustErr(t, "Run", err, api.OK)
	for _, clock := range []int{5, 6, 1000, 1 << 40, 1} {
		q.Token = p.Token
		if at, err := query.At(q, clock); at != 5 || err != api.OK {
			t.Errorf("%d, %d", at, err)
		}
		next, err := query.Run(two, q, clock, &list{rows: simple("r2")})
		mustErr(t, "Run", err, api.OK)
		q.Token = next.Token
		if at, err := query.At(q, clock); at != 5 || err != api.OK {
			t.Errorf("%d, %d", at, err)
		}
	}
}
