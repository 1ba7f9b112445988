package query_test

import (
	"math"
	"math/rand"
	"slices"
	"strings"
	"testing"

	"strata/api"
	"strata/query"
)

// 13.5, 13.7: the chapter's examples, and pages of every kind.
func TestRun(t *testing.T) {
	many := func(change ...func(*api.Query)) api.Query {
		return asked(append([]func(*api.Query){size(9)}, change...)...)
	}
	for i, c := range []struct {
		q     api.Query
		rows  []api.Row
		names string
		cells int // of each of its rows
		done  bool
		took  int // how often the source is asked
	}{
		{asked(size(2)), simple("r1", "r2", "r3"), "r1 r2", 2, false, 2},
		{asked(size(2), ended(9, "r2")), simple("r3"), "r3", 2, true, 2},
		{asked(size(1), ended(9, "r2")), simple("r3"), "r3", 2, false, 1},
		{asked(size(1), ended(9, "r3")), nil, "", 0, true, 1},
		{many(backward, rowsFrom("", "r3")), simple("r2", "r1"), "r2 r1", 2, true, 3},
		{many(ofFams(1), where(`value = "1"`)), simple("r1", "r2", "r3"), "", 0, true, 4},
		// just as many rows as are asked for: whether there are more is not asked
		{asked(size(3)), simple("r1", "r2", "r3"), "r1 r2 r3", 2, false, 3}, {asked(size(4)), simple("r1", "r2", "r3"), "r1 r2 r3", 2, true, 4}, {many(), nil, "", 0, true, 1},
		// what is asked of cells
		{many(ofFams(0)), simple("r1", "r2"), "r1 r2", 1, true, 3}, {many(ofFams(0, 1)), simple("r1"), "r1", 2, true, 2}, {many(prefix("y")), simple("r1"), "r1", 1, true, 2}, {many(prefix("yy")), simple("r1"), "", 0, true, 2}, {many(prefix("z")), simple("r1"), "", 0, true, 2},
		{many(where("ts >= 4 and not fam = a")), simple("r1"), "r1", 1, true, 2}, {many(where("ts > 9")), simple("r1"), "", 0, true, 2}, {many(ofFams(0), prefix("y")), simple("r1"), "", 0, true, 2}, {many(ofFams(1), prefix("y"), where(`value="2"`)), simple("r1"), "r1", 1, true, 2},
		// rows that are passed over do not count
		{asked(size(2)), []api.Row{{Row: []byte("r")}, simple("r1")[0], {Row: []byte("r11")}, simple("r2")[0], {Row: []byte("r3")}}, "r1 r2", 2, false, 4},
		// a row beyond ends it, and nothing behind it is asked for
		{many(rowsFrom("", "r2")), simple("r1", "r2", "r3"), "r1", 2, true, 2}, {many(rowsFrom("", "r2")), simple("r1", "r3", "r2"), "r1", 2, true, 2}, {many(rowsFrom("r1", "r2")), simple("r1", "r1\x00", "r2"), "r1 r1\x00", 2, true, 3}, {many(rowsFrom("", "r")), simple("r1"), "", 0, true, 1},
		{many(backward, rowsFrom("r2", "")), simple("r3", "r2", "r1"), "r3 r2", 2, true, 3}, {many(backward, rowsFrom("r2", "r4")), simple("r3", "r2", "r1\xff", "r5"), "r3 r2", 2, true, 3}, {many(backward, rowsFrom("r2", "")), simple("r1"), "", 0, true, 1},
		// a page that is full at the last row ahead of the bound does not look at the bound
		{asked(size(1), rowsFrom("", "r2")), simple("r1", "r2"), "r1", 2, false, 1},
		// a token's edge
		{many(ended(9, "r2")), simple("r2\x00", "r3"), "r2\x00 r3", 2, true, 3}, {many(backward, ended(9, "r2")), simple("r1\xff", "r"), "r1\xff r", 2, true, 3}, {many(rowsFrom("r1", "r3"), ended(9, "r2")), simple("r21", "r3"), "r21", 2, true, 2},
		// From itself, the longest row
		{many(rowsFrom("r2", "")), simple("r2"), "r2", 2, true, 2}, {many(), simple(strings.Repeat("r", 256)), strings.Repeat("r", 256), 2, true, 2}, {many(ended(9, strings.Repeat("r", 256))), simple("s"), "s", 2, true, 2},
	} {
		src := &list{rows: c.rows}
		p, err := query.Run(two, c.q, 9, src)
		if namesOf(p) != c.names || p.Done != c.done || (len(p.Token) == 0) != c.done || err != api.OK || src.asked != c.took {
			t.Errorf("line %d: %q, %v, %x, %d, asked %d times", i, namesOf(p), p.Done, p.Token, err, src.asked)
		}
		for _, r := range p.Rows {
			if len(r.Cells) != c.cells {
				t.Errorf("line %d: %q has %d cells", i, r.Row, len(r.Cells))
			}
		}
	}
}

// 13.7: cells come in the order in which the source gave them, whole.
func TestCellsInTheirOrder(t *testing.T) {
	in := []api.Cell{
		{Fam: 1, Qual: []byte("y"), Ts: 4, Value: []byte("2")}, {Fam: 0, Qual: []byte("yz"), Ts: 9}, {Fam: 0, Qual: []byte("x"), Ts: 9, Value: []byte("no")},
		{Fam: 1, Qual: []byte("y"), Ts: 4, Value: []byte("2")}, {Fam: 1, Qual: []byte("y\x00"), Ts: -3, Value: make([]byte, 5000)}, {Fam: 0, Qual: []byte("y"), Ts: 1 << 50, Value: []byte("\x00")},
	}
	p, err := query.Run(two, asked(size(2), prefix("y")), 9, &list{rows: []api.Row{{Row: []byte("r"), Cells: in}}})
	want := api.Page{Rows: []api.Row{{Row: []byte("r"), Cells: slices.Delete(slices.Clone(in), 2, 3)}}, Done: true}
	if !samePage(p, want) || err != api.OK {
		t.Errorf("%+v, %d", p, err)
	}
}

// 13.7: rows that may not come, and what is told first.
func TestRowsOutOfOrder(t *testing.T) {
	many := func(change ...func(*api.Query)) api.Query {
		return asked(append([]func(*api.Query){size(9)}, change...)...)
	}
	long := strings.Repeat("r", 257)
	odd := func(fam int, names ...string) []api.Row {
		l := simple(names...)
		l[len(l)-1].Cells[1].Fam = fam
		return l
	}
	for i, c := range []struct {
		q    api.Query
		rows []api.Row
		took int
	}{
		{many(), simple(""), 1}, {many(backward), simple(""), 1}, {many(), simple("r", ""), 2}, {many(backward), simple("r", ""), 2}, {many(), simple(long), 1}, {many(backward), simple(long), 1}, {many(rowsFrom("", "q")), simple(long), 1},
		{many(), simple("r2", "r1"), 2}, {many(), simple("r1", "r1"), 2}, {many(), simple("r1", "r2", "r3", "r2\xff"), 4}, {many(backward), simple("r1", "r2"), 2}, {many(backward), simple("r1", "r1"), 2}, {many(backward), simple("r3", "r2", "r2\x00"), 3}, {many(), simple("r\x80", "r\x7f"), 2},
		// behind a row that was passed over too
		{many(ofFams(0), prefix("z")), simple("r2", "r1"), 2}, {many(), []api.Row{{Row: []byte("r2")}, {Row: []byte("r2")}}, 2},
		// the first one
		{many(rowsFrom("r2", "")), simple("r1"), 1}, {many(rowsFrom("r2", "")), simple("r"), 1}, {many(rowsFrom("r2", "r3")), simple("r1\xff"), 1}, {many(backward, rowsFrom("", "r2")), simple("r2"), 1}, {many(backward, rowsFrom("", "r2")), simple("r2\x00"), 1}, {many(backward, rowsFrom("r1", "r2")), simple("r3"), 1},
		{many(ended(9, "r2")), simple("r2"), 1}, {many(ended(9, "r2")), simple("r1"), 1}, {many(backward, ended(9, "r2")), simple("r2"), 1}, {many(backward, ended(9, "r2")), simple("r3"), 1}, {many(backward, rowsFrom("", "r9"), ended(9, "r2")), simple("r3"), 1}, {many(ended(9, strings.Repeat("r", 256))), simple(strings.Repeat("r", 256)), 1},
		// a family that the schema has not, also in a row or a cell that nobody asks for
		{many(), odd(2, "r1"), 1}, {many(), odd(-1, "r1"), 1}, {many(), odd(math.MaxInt, "r1"), 1}, {many(), odd(math.MinInt, "r1"), 1}, {many(), odd(2, "r1", "r2"), 2}, {many(ofFams(0)), odd(2, "r1"), 1}, {many(prefix("z")), odd(2, "r1"), 1}, {many(rowsFrom("", "r1")), odd(2, "r1"), 1}, {many(backward, rowsFrom("r2", "")), odd(2, "r1"), 1},
		// behind the bound the order is looked at all the same
		{many(rowsFrom("", "r2")), simple("r1", "r1", "r3"), 2},
	} {
		src := &list{rows: c.rows, err: api.ErrBroken}
		p, err := query.Run(two, c.q, 9, src)
		if err != api.ErrRows || !samePage(p, api.Page{}) || src.asked != c.took {
			t.Errorf("line %d: %+v, %d, asked %d times", i, p, err, src.asked)
		}
	}
	// the last family is one
	mustErr(t, "Run", runErr(two, many(), 9, &list{rows: odd(1, "r1")}), api.OK)
}

func runErr(s api.Schema, q api.Query, clock int, src query.Rows) api.Errno {
	_, err := query.Run(s, q, clock, src)
	return err
}

// both gives a row and an error at once.
type both struct {
	row api.Row
	is  bool
	err api.Errno
}

func (b both) Next() (api.Row, bool, api.Errno) { return b.row, b.is, b.err }

// 13.7: an error of the source is the answer, whatever came ahead of it or comes with it.
func TestErrorsOfTheSource(t *testing.T) {
	for _, e := range []api.Errno{api.ErrArg, api.ErrDown, api.ErrBroken, api.ErrReleased, api.ErrRows, -7, 9999} {
		for _, names := range [][]string{nil, {"r1"}, {"r1", "r2"}} {
			p, err := query.Run(two, asked(size(3)), 9, &list{rows: simple(names...), err: e})
			if err != e || !samePage(p, api.Page{}) {
				t.Errorf("%+v, %d, want %d", p, err, e)
			}
		}
		mustErr(t, "with a row", runErr(two, asked(), 9, both{simple("r")[0], true, e}), e)
		mustErr(t, "with no row", runErr(two, asked(), 9, both{api.Row{}, true, e}), e)
	}
	// it is not asked for once the page is full, nor behind a row that is beyond
	mustErr(t, "a full page", runErr(two, asked(size(2)), 9, &list{rows: simple("r1", "r2"), err: api.ErrBroken}), api.OK)
	mustErr(t, "a row beyond", runErr(two, asked(size(2), rowsFrom("", "r2")), 9, &list{rows: simple("r1", "r2"), err: api.ErrBroken}), api.OK)
	// a row beside false is none
	p, err := query.Run(two, asked(), 9, both{simple("r")[0], false, api.OK})
	if err != api.OK || len(p.Rows) > 0 || !p.Done {
		t.Errorf("%+v, %d", p, err)
	}
}

// 13.7: the order of what is refused ahead of the first row.
func TestRefusals(t *testing.T) {
	for i, c := range []struct {
		q     api.Query
		clock int
		none  bool
		want  api.Errno
	}{
		{asked(), 9, true, api.ErrArg}, {asked(), 0, false, api.ErrArg}, {asked(), -1, false, api.ErrArg}, {asked(), 1<<40 + 1, false, api.ErrArg}, {asked(), math.MaxInt, false, api.ErrArg}, {asked(), 1, false, api.OK}, {asked(), 1 << 40, false, api.OK}, {asked(time(4)), 0, false, api.ErrArg}, {asked(ended(4, "r")), 0, false, api.ErrArg},
		{asked(versions(0)), 0, true, api.ErrQuery}, {asked(where("?")), 0, true, api.ErrWhere}, {asked(token([]byte{1})), 0, true, api.ErrToken}, {asked(where("?"), token([]byte{1})), 9, false, api.ErrWhere}, {asked(size(1001)), 9, false, api.ErrQuery},
	} {
		src := &list{}
		var given query.Rows
		if !c.none {
			given = src
		}
		p, err := query.Run(two, c.q, c.clock, given)
		if err != c.want || err != api.OK && (!samePage(p, api.Page{}) || src.asked != 0) {
			t.Errorf("line %d: %+v, %d, asked %d times", i, p, err, src.asked)
		}
	}
}

// drawQuestion draws a question over the rows that drawRows draws.
func drawQuestion(r *rand.Rand, s api.Schema) api.Query {
	q := asked(size(1+r.Intn(5)), versions(1+r.Intn(3)))
	if from, to := drawName(r), drawName(r); r.Intn(2) == 0 && from != to {
		rowsFrom(min(from, to), max(from, to))(&q)
	}
	if r.Intn(4) == 0 {
		q.From = nil
	}
	if r.Intn(4) == 0 {
		q.To = nil
	}
	if f := r.Intn(2 * len(s.Fams)); f < len(s.Fams) {
		q.Fams = []int{f}
	}
	if r.Intn(3) == 0 {
		q.Prefix = []byte([]string{"a", "b", "\x00", "\xff"}[r.Intn(4)])
	}
	if r.Intn(3) == 0 {
		q.Time = 1 + r.Intn(9)
	}
	if r.Intn(2) == 0 {
		q.Where = lay(r, drawCond(r, s, r.Intn(3)))
	}
	q.Reverse = r.Intn(2) == 0
	return q
}

func drawName(r *rand.Rand) string {
	out := ""
	for range 1 + r.Intn(3) {
		out += []string{"\x00", "a", "b", "\xff"}[r.Intn(4)]
	}
	return out
}

// drawRows draws rows, rising.
func drawRows(r *rand.Rand, s api.Schema, most int) []api.Row {
	names := map[string]int{}
	for range r.Intn(most + 1) {
		names[drawName(r)]++
	}
	var out []api.Row
	for name := range names {
		row := api.Row{Row: []byte(name)}
		for range r.Intn(4) {
			row.Cells = append(row.Cells, drawCell(r, s))
		}
		out = append(out, row)
	}
	slices.SortFunc(out, func(a, b api.Row) int { return strings.Compare(string(a.Row), string(b.Row)) })
	return out
}

// 13.1, 13.7: drawn questions of drawn sources, in order and not, held against the chapter's words.
func TestDrawnRuns(t *testing.T) {
	r := rand.New(rand.NewSource(137))
	told := map[api.Errno]int{}
	for i := range 40000 {
		s := []api.Schema{two, three}[i%2]
		q := drawQuestion(r, s)
		clock := 1 + r.Intn(20)
		at, behind := clock, ""
		if q.Time != 0 {
			at = q.Time
		}
		if r.Intn(3) == 0 {
			row := drawName(r)
			if row >= string(q.From) && (len(q.To) == 0 || row < string(q.To)) {
				if q.Time == 0 {
					at = 1 + r.Intn(20)
				}
				behind = row
				q.Token = tokenOf(q, uint64(at), behind)
			}
		}
		src := from(t, q, drawRows(r, s, 9))
		unsettle(r, src)
		again := &list{rows: src.rows, err: src.err}
		got, err := query.Run(s, q, clock, src)
		want, wantErr := wantRun(s, q, at, behind, again)
		if err != wantErr || !samePage(got, want) {
			t.Fatalf("%+v: %+v, %d, want %+v, %d", q, got, err, want, wantErr)
		}
		told[err]++
	}
	if told[api.OK] < 20000 || told[api.ErrRows] < 1000 || told[api.ErrBroken] < 500 {
		t.Errorf("%v", told)
	}
}

// unsettle makes some sources wrong.
func unsettle(r *rand.Rand, src *list) {
	if n := len(src.rows); n > 1 && r.Intn(6) == 0 {
		i, j := r.Intn(n), r.Intn(n)
		src.rows[i], src.rows[j] = src.rows[j], src.rows[i]
	}
	if n := len(src.rows); n > 0 && r.Intn(12) == 0 {
		i := r.Intn(n)
		src.rows = slices.Insert(src.rows, i, src.rows[i])
	}
	if n := len(src.rows); n > 0 && r.Intn(12) == 0 {
		row := &src.rows[r.Intn(n)]
		row.Cells = append(slices.Clone(row.Cells), api.Cell{Fam: []int{-1, 2, 3}[r.Intn(3)]})
	}
	if r.Intn(8) == 0 {
		src.rows = slices.Insert(src.rows, r.Intn(len(src.rows)+1), api.Row{Row: []byte(drawName(r)[1:])})
	}
	if r.Intn(8) == 0 {
		src.err = api.ErrBroken
	}
}
