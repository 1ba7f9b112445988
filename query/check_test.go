package query_test

import (
	"math"
	"strings"
	"testing"

	"strata/api"
	"strata/query"
)

// asked is a question that is one, changed.
func asked(change ...func(*api.Query)) api.Query {
	q := api.Query{N: 1, Rows: 1}
	for _, f := range change {
		f(&q)
	}
	return q
}

func rowsFrom(from, to string) func(*api.Query) {
	return func(q *api.Query) { q.From, q.To = []byte(from), []byte(to) }
}

func ofFams(l ...int) func(*api.Query)   { return func(q *api.Query) { q.Fams = l } }
func prefix(p string) func(*api.Query)   { return func(q *api.Query) { q.Prefix = []byte(p) } }
func time(n int) func(*api.Query)        { return func(q *api.Query) { q.Time = n } }
func versions(n int) func(*api.Query)    { return func(q *api.Query) { q.N = n } }
func size(n int) func(*api.Query)        { return func(q *api.Query) { q.Rows = n } }
func where(text string) func(*api.Query) { return func(q *api.Query) { q.Where = text } }
func token(b []byte) func(*api.Query)    { return func(q *api.Query) { q.Token = b } }
func backward(q *api.Query)              { q.Reverse = true }
func ended(time uint64, row string) func(*api.Query) {
	return func(q *api.Query) { q.Token = tokenOf(*q, time, row) }
}

// 13.2: each field's bounds, on both sides.
func TestCheck(t *testing.T) {
	long := strings.Repeat("r", 256)
	for i, c := range []struct {
		q    api.Query
		want api.Errno
	}{
		{asked(), api.OK},
		{asked(rowsFrom("r", "")), api.OK}, {asked(rowsFrom("", "r")), api.OK}, {asked(rowsFrom("", "\x00")), api.OK},
		{asked(rowsFrom("r2", "r2")), api.ErrQuery}, {asked(rowsFrom("r2", "r1")), api.ErrQuery}, {asked(rowsFrom("r2", "r2\x00")), api.OK}, {asked(rowsFrom("r2", "r")), api.ErrQuery}, {asked(rowsFrom("r2", "s")), api.OK}, {asked(rowsFrom("s", "r2")), api.ErrQuery}, {asked(rowsFrom("\x7f", "\x80")), api.OK}, {asked(rowsFrom("\xff", "\x00")), api.ErrQuery}, {asked(rowsFrom("r2", "r2"), backward), api.ErrQuery}, {asked(rowsFrom("s", "r"), backward), api.ErrQuery}, {asked(rowsFrom("r", "s"), backward), api.OK},
		{asked(rowsFrom(long, "")), api.OK}, {asked(rowsFrom(long+"r", "")), api.ErrQuery}, {asked(rowsFrom("", long)), api.OK}, {asked(rowsFrom("", long+"r")), api.ErrQuery}, {asked(rowsFrom(long, long[:255]+"s")), api.OK}, {asked(rowsFrom(long, long)), api.ErrQuery}, {asked(rowsFrom(long, long+"\x00")), api.ErrQuery},
		{asked(ofFams(0)), api.OK}, {asked(ofFams(1)), api.OK}, {asked(ofFams(0, 1)), api.OK}, {asked(ofFams(1, 0)), api.ErrQuery}, {asked(ofFams(0, 0)), api.ErrQuery}, {asked(ofFams(1, 1)), api.ErrQuery}, {asked(ofFams(2)), api.ErrQuery}, {asked(ofFams(0, 1, 2)), api.ErrQuery}, {asked(ofFams(-1)), api.ErrQuery}, {asked(ofFams(-1, 0)), api.ErrQuery}, {asked(ofFams(math.MinInt)), api.ErrQuery}, {asked(ofFams(0, math.MaxInt)), api.ErrQuery}, {asked(ofFams(0, 1, 1)), api.ErrQuery}, {asked(ofFams(0, 1, 0)), api.ErrQuery}, {asked(ofFams()), api.OK},
		{asked(prefix("")), api.OK}, {asked(prefix(long)), api.OK}, {asked(prefix(long + "r")), api.ErrQuery},
		{asked(time(1)), api.OK}, {asked(time(1 << 40)), api.OK}, {asked(time(1<<40 + 1)), api.ErrQuery}, {asked(time(-1)), api.ErrQuery}, {asked(time(math.MinInt)), api.ErrQuery}, {asked(time(math.MaxInt)), api.ErrQuery},
		{asked(versions(0)), api.ErrQuery}, {asked(versions(-1)), api.ErrQuery}, {asked(versions(16)), api.OK}, {asked(versions(17)), api.ErrQuery}, {asked(versions(math.MaxInt)), api.ErrQuery},
		{asked(size(0)), api.ErrQuery}, {asked(size(-1)), api.ErrQuery}, {asked(size(1000)), api.OK}, {asked(size(1001)), api.ErrQuery}, {asked(size(math.MinInt)), api.ErrQuery},
		{asked(where("ts = 5")), api.OK}, {asked(where("  ts=5  ")), api.OK}, {asked(where("fam = a")), api.OK}, {asked(where("fam = c")), api.ErrWhere}, {asked(where(" ")), api.ErrWhere}, {asked(where("?")), api.ErrWhere}, {asked(where(strings.Repeat(" ", 507) + "ts=5")), api.OK}, {asked(where(strings.Repeat(" ", 509) + "ts=5")), api.ErrWhere},
		{asked(token([]byte{1})), api.ErrToken}, {asked(token([]byte{})), api.OK}, {asked(ended(9, "r")), api.OK}, {asked(ended(9, "r"), versions(2)), api.ErrToken}, {asked(ended(9, "r"), size(1000)), api.OK},
		// the first of several
		{asked(versions(0), where("?"), token([]byte{1})), api.ErrQuery}, {asked(size(0), where("?")), api.ErrQuery}, {asked(where("?"), token([]byte{1})), api.ErrWhere}, {asked(size(0), token([]byte{1})), api.ErrQuery},
		{api.Query{}, api.ErrQuery},
	} {
		if got := query.Check(two, c.q); got != c.want {
			t.Errorf("line %d: %d, want %d (%+v)", i, got, c.want, c.q)
		}
	}
}

// 13.2: the families are the schema's, and a schema that is none is told first.
func TestCheckBySchema(t *testing.T) {
	one := api.Schema{Fams: two.Fams[:1]}
	mustErr(t, "Fams 1 of one family", query.Check(one, asked(ofFams(1))), api.ErrQuery)
	mustErr(t, "Fams 0 of one family", query.Check(one, asked(ofFams(0))), api.OK)
	mustErr(t, "Fams 2 of three", query.Check(three, asked(ofFams(0, 2))), api.OK)
	mustErr(t, "Fams 3 of three", query.Check(three, asked(ofFams(0, 3))), api.ErrQuery)
	mustErr(t, "fam = b of one family", query.Check(one, asked(where("fam = b"))), api.ErrWhere)
	eight := api.Schema{}
	for _, name := range "abcdefgh" {
		eight.Fams = append(eight.Fams, api.Family{Name: string(name), Max: 1})
	}
	mustErr(t, "all of eight", query.Check(eight, asked(ofFams(0, 1, 2, 3, 4, 5, 6, 7), where("fam != h"))), api.OK)
	for _, s := range []api.Schema{{}, {Fams: []api.Family{{Name: "a"}}}, {Fams: []api.Family{{Name: "a", Max: 1}, {Name: "a", Max: 1}}}} {
		for _, q := range []api.Query{asked(), {}, asked(versions(0)), asked(where("?")), asked(token([]byte{1}))} {
			mustErr(t, "Check without a schema", query.Check(s, q), api.ErrSchema)
			p, err := query.Run(s, q, 0, nil)
			mustErr(t, "Run without a schema", err, api.ErrSchema)
			if !samePage(p, api.Page{}) {
				t.Errorf("%+v", p)
			}
		}
	}
}

// 13.5: the time of a question.
func TestAt(t *testing.T) {
	for i, c := range []struct {
		q     api.Query
		clock int
		at    int
		want  api.Errno
	}{
		{asked(), 9, 9, api.OK}, {asked(), 1, 1, api.OK}, {asked(), 1 << 40, 1 << 40, api.OK},
		{asked(time(4)), 9, 4, api.OK}, {asked(time(40)), 9, 40, api.OK}, {asked(time(1 << 40)), 1, 1 << 40, api.OK},
		{asked(ended(5, "r")), 9, 5, api.OK}, {asked(ended(77, "r")), 9, 77, api.OK}, {asked(time(4), ended(4, "r")), 9, 4, api.OK}, {asked(ended(1<<40, "r")), 1, 1 << 40, api.OK},
		{asked(), 0, 0, api.ErrArg}, {asked(), -1, 0, api.ErrArg}, {asked(), 1<<40 + 1, 0, api.ErrArg}, {asked(time(4)), 0, 0, api.ErrArg}, {asked(ended(5, "r")), 0, 0, api.ErrArg}, {asked(token([]byte{1})), 0, 0, api.ErrArg}, {asked(), math.MaxInt, 0, api.ErrArg}, {asked(), math.MinInt, 0, api.ErrArg},
		{asked(token([]byte{1})), 9, 0, api.ErrToken}, {asked(time(4), token([]byte{1})), 9, 0, api.ErrToken}, {asked(time(4), ended(5, "r")), 9, 0, api.ErrToken},
		// of values that are no question it tells what it says too
		{api.Query{}, 9, 9, api.OK}, {api.Query{Time: -4}, 9, -4, api.OK}, {asked(rowsFrom("s", "r"), where("?"), size(0)), 9, 9, api.OK},
	} {
		if at, err := query.At(c.q, c.clock); at != c.at || err != c.want {
			t.Errorf("line %d: %d, %d, want %d, %d", i, at, err, c.at, c.want)
		}
	}
}

// 13.5: where the rows begin.
func TestStart(t *testing.T) {
	long := strings.Repeat("r", 256)
	for i, c := range []struct {
		q     api.Query
		start string
		is    bool
		want  api.Errno
	}{
		{asked(), "", false, api.OK}, {asked(backward), "", false, api.OK},
		{asked(rowsFrom("b", "")), "b", true, api.OK}, {asked(rowsFrom("b", "d")), "b", true, api.OK}, {asked(rowsFrom("", "d")), "", false, api.OK},
		{asked(rowsFrom("b", ""), backward), "", false, api.OK}, {asked(rowsFrom("b", "d"), backward), "d", true, api.OK}, {asked(rowsFrom("", "d"), backward), "d", true, api.OK},
		{asked(ended(9, "c")), "c\x00", true, api.OK}, {asked(rowsFrom("b", "d"), ended(9, "c")), "c\x00", true, api.OK}, {asked(rowsFrom("b", "d"), ended(9, "b")), "b\x00", true, api.OK}, {asked(ended(9, "c\x00")), "c\x00\x00", true, api.OK}, {asked(ended(9, long)), long + "\x00", true, api.OK},
		{asked(backward, ended(9, "c")), "c", true, api.OK}, {asked(rowsFrom("b", "d"), backward, ended(9, "c")), "c", true, api.OK}, {asked(rowsFrom("b", "d"), backward, ended(9, "b")), "b", true, api.OK}, {asked(backward, ended(9, long)), long, true, api.OK},
		{asked(token([]byte{1})), "", false, api.ErrToken}, {asked(rowsFrom("b", "d"), token([]byte{1})), "", false, api.ErrToken}, {asked(rowsFrom("b", "d"), ended(9, "d")), "", false, api.ErrToken},
		// of values that are no question it tells what it says too
		{asked(rowsFrom(long+"r", "a")), long + "r", true, api.OK}, {asked(rowsFrom("d", "b"), backward, size(0)), "b", true, api.OK}, {api.Query{}, "", false, api.OK},
	} {
		if start, is, err := query.Start(c.q); string(start) != c.start || is != c.is || err != c.want {
			t.Errorf("line %d: %q, %v, %d, want %q, %v, %d", i, start, is, err, c.start, c.is, c.want)
		}
	}
}
