package query_test

import (
	"bytes"
	"math"
	"math/rand"
	"slices"
	"strings"
	"sync"
	"testing"

	"strata/api"
	"strata/query"
)

// roomy is bytes with spare room behind them, which holds something.
func roomy(text string) []byte { return []byte(text + "spare")[:len(text)] }

func roomyRow(name string) api.Row {
	cells := []api.Cell{{Fam: 0, Qual: roomy("x"), Ts: 5, Value: roomy("1")}, {Fam: 1, Qual: roomy("xy"), Ts: 4, Value: roomy("2")}, {Fam: 1, Qual: roomy("spare")}}
	return api.Row{Row: roomy(name), Cells: cells[:2]}
}

// whole is a copy of bytes with their spare room.
func whole(b []byte) []byte { return bytes.Clone(b[:cap(b)]) }

// insides are all byte strings of a question and rows, with their spare room.
func insides(q api.Query, rows []api.Row) [][]byte {
	out := [][]byte{whole(q.From), whole(q.To), whole(q.Prefix), whole(q.Token)}
	for _, f := range q.Fams[:cap(q.Fams)] {
		out = append(out, []byte{byte(f)})
	}
	for _, r := range rows {
		out = append(out, whole(r.Row))
		for _, c := range r.Cells[:cap(r.Cells)] {
			out = append(out, whole(c.Qual), whole(c.Value), []byte{byte(c.Fam), byte(c.Ts)})
		}
	}
	return out
}

func roomyQuestion(reverse bool) api.Query {
	q := api.Query{From: roomy("r"), To: roomy("s"), Fams: []int{0, 1, 77}[:2], Prefix: roomy("x"), N: 1, Rows: 2, Reverse: reverse, Where: "ts > 1"}
	q.Token = roomy(string(tokenOf(q, 9, "r5")))
	return q
}

// 13.11: nothing that is handed in is changed, nor what a source gives, nor the spare room of any.
func TestNothingIsChanged(t *testing.T) {
	for _, reverse := range []bool{false, true} {
		q := roomyQuestion(reverse)
		rows := []api.Row{roomyRow("r6"), roomyRow("r7")}
		if reverse {
			rows = []api.Row{roomyRow("r4"), roomyRow("r3")}
		}
		s := api.Schema{Fams: slices.Clone(two.Fams)}
		was := insides(q, rows)
		p, err := query.Run(s, q, 9, &list{rows: rows})
		if len(p.Rows) != 2 || err != api.OK {
			t.Fatalf("%+v, %d", p, err)
		}
		query.Check(s, q)
		query.At(q, 9)
		query.Start(q)
		query.ParseWhere(s, q.Where)
		if !slices.EqualFunc(insides(q, rows), was, bytes.Equal) || !slices.Equal(s.Fams, two.Fams) {
			t.Errorf("changed: %+v, %+v", q, rows)
		}
	}
}

// scrub writes over all of a list, its spare room too.
func scrub(b []byte) {
	b = b[:cap(b)]
	for i := range b {
		b[i] = 0xee
	}
}

// 13.11: answers are new memory: whoever writes over one, its spare room too, spoils nothing else.
func TestAnswersAreNewMemory(t *testing.T) {
	for _, reverse := range []bool{false, true} {
		q := roomyQuestion(reverse)
		rows := []api.Row{roomyRow("r6"), roomyRow("r7")}
		if reverse {
			rows = []api.Row{roomyRow("r4"), roomyRow("r3")}
		}
		was := insides(q, rows)
		p, _ := query.Run(two, q, 9, &list{rows: rows})
		want, _ := query.Run(two, q, 9, &list{rows: rows})
		lists := func(p *api.Page) []*[]byte {
			out := []*[]byte{&p.Token}
			for i := range p.Rows {
				out = append(out, &p.Rows[i].Row)
				for j := range p.Rows[i].Cells {
					out = append(out, &p.Rows[i].Cells[j].Qual, &p.Rows[i].Cells[j].Value)
				}
			}
			return out
		}
		rest := lists(&want)
		for i, b := range lists(&p) {
			scrub(*b)
			for j, c := range lists(&p) {
				if j > i && !bytes.Equal(*c, *rest[j]) {
					t.Fatalf("the list %d of the page shares memory with the list %d", j, i)
				}
			}
		}
		for i := range p.Rows {
			c := p.Rows[i].Cells
			clear(c[:cap(c)])
		}
		if i := slices.IndexFunc(p.Rows[1].Cells, func(c api.Cell) bool { return c.Ts != 0 }); i >= 0 {
			t.Fatal("cells were not written over")
		}
		for _, change := range []func(*api.Query){func(*api.Query) {}, func(q *api.Query) { q.Token = nil }} {
			x := q
			change(&x)
			start, _, _ := query.Start(x)
			scrub(start)
		}
		if !slices.EqualFunc(insides(q, rows), was, bytes.Equal) {
			t.Errorf("an answer shares memory with what was handed in")
		}
	}
}

// reusing gives each row in the memory of the one ahead.
type reusing struct {
	names []string
	row   []byte
	cells []api.Cell
}

func (s *reusing) Next() (api.Row, bool, api.Errno) {
	scrub(s.row)
	for _, c := range s.cells {
		scrub(c.Qual)
		scrub(c.Value)
	}
	if len(s.names) == 0 {
		return api.Row{}, false, api.OK
	}
	s.row = append(s.row[:0], s.names[0]...)
	s.cells[0] = api.Cell{Qual: append(s.cells[0].Qual[:0], "q"+s.names[0]...), Ts: 5, Value: append(s.cells[0].Value[:0], s.names[0]...)}
	s.names = s.names[1:]
	return api.Row{Row: s.row, Cells: s.cells}, true, api.OK
}

// 13.11: rows that a source gives are not kept: it may write the next one over them.
func TestSourceThatUsesItsMemoryAgain(t *testing.T) {
	for _, c := range []struct {
		names string
		q     api.Query
		want  string
		err   api.Errno
	}{
		{"a b c", asked(size(9)), "a b c", api.OK}, {"c b a", asked(size(9), backward), "c b a", api.OK}, {"a b c", asked(size(2)), "a b", api.OK},
		{"a c b", asked(size(9)), "", api.ErrRows}, {"a b b", asked(size(9)), "", api.ErrRows}, {"c a b", asked(size(9), backward), "", api.ErrRows},
	} {
		src := &reusing{names: strings.Fields(c.names), cells: make([]api.Cell, 1)}
		p, err := query.Run(two, c.q, 9, src)
		src.Next()
		if namesOf(p) != c.want || err != c.err {
			t.Errorf("%s: %q, %d", c.names, namesOf(p), err)
		}
		for _, r := range p.Rows {
			if string(r.Cells[0].Qual) != "q"+string(r.Row) || string(r.Cells[0].Value) != string(r.Row) {
				t.Errorf("%s: %+v", c.names, r)
			}
		}
	}
}

// 13.11: whatever values come, every call ends, and none panics.
func TestWhateverValuesCome(t *testing.T) {
	r := rand.New(rand.NewSource(1311))
	wild := []int{math.MinInt, -1, 0, 1, 2, 3, 9, 16, 17, 1000, 1001, 1 << 40, 1<<40 + 1, math.MaxInt}
	draw := func() int { return wild[r.Intn(len(wild))] }
	noise := func() []byte {
		b := make([]byte, []int{0, 0, 1, 2, 12, 30, 256, 257, 600}[r.Intn(9)])
		r.Read(b)
		return b
	}
	schemas := []api.Schema{two, three, {}, {Fams: []api.Family{{}}}}
	for range 30000 {
		s := schemas[r.Intn(len(schemas))]
		q := drawQuestion(r, two)
		if r.Intn(2) == 0 {
			q = api.Query{From: noise(), To: noise(), Prefix: noise(), Time: draw(), N: draw(), Rows: draw(), Where: string(noise()), Token: noise()}
			for range r.Intn(4) {
				q.Fams = append(q.Fams, draw())
			}
		}
		if r.Intn(3) == 0 {
			q.Token = tokenOf(q, uint64(draw()), string(noise()))
		}
		var src query.Rows
		if r.Intn(8) > 0 {
			src = &list{rows: []api.Row{{Row: noise(), Cells: []api.Cell{{Fam: draw(), Qual: noise(), Ts: draw(), Value: noise()}}}, {Row: noise()}}, err: api.Errno(draw())}
		}
		query.Check(s, q)
		query.ParseWhere(s, q.Where)
		query.Start(q)
		query.At(q, draw())
		if p, err := query.Run(s, q, draw(), src); err != api.OK && !samePage(p, api.Page{}) {
			t.Fatalf("%+v beside %d", p, err)
		}
	}
}

// 13.11: nothing is kept from call to call, and calls side by side have nothing in common.
func TestSideBySide(t *testing.T) {
	q := roomyQuestion(false)
	rows := []api.Row{roomyRow("r6"), roomyRow("r7"), roomyRow("r8")}
	want, err := query.Run(two, q, 9, &list{rows: rows})
	mustErr(t, "Run", err, api.OK)
	var wait sync.WaitGroup
	for range 8 {
		wait.Go(func() {
			for range 100 {
				query.ParseWhere(three, "fam = and and (")
				if p, err := query.Run(two, q, 9, &list{rows: rows}); err != api.OK || !samePage(p, want) {
					t.Errorf("%+v, %d", p, err)
				}
			}
		})
	}
	wait.Wait()
}
