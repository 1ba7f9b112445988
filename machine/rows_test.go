package machine_test

import (
	"bytes"
	"math/rand"
	"strconv"
	"strings"
	"testing"

	"strata/api"
	"strata/cell"
	"strata/machine"
	"strata/query"
	"strata/wire"
)

func (b *bench) rows(q api.Query) *machine.Rows {
	b.Helper()
	r, err := b.m.Rows(q)
	if r == nil || err != api.OK {
		b.Fatalf("Rows(%+v): %v, %d", q, r, err)
	}
	return r
}

// all is what Rows tells up to its end.
func all(t testing.TB, r *machine.Rows) []api.Row {
	t.Helper()
	var out []api.Row
	for {
		row, more, err := r.Next()
		mustErr(t, "Next", err, api.OK)
		if !more {
			if !same(row, api.Row{}) {
				t.Fatalf("%+v at the end", row)
			}
			return out
		}
		out = append(out, row)
	}
}

// abc is a bench with a few rows, of which c shows nothing.
func abc(t testing.TB) *bench {
	t.Helper()
	b := begin(t, two)
	b.do(tick(9))
	b.do(mutate("a", put("q", 3, "1"), put("q", 5, "2"), put("p", 5, "3"), ofG(put("q", 4, "4"))))
	b.do(mutate("b", put("q", 8, "5")))
	b.do(mutate("c", put("q", 7, "6"), kill(api.OCol, "q", 7)))
	b.do(mutate("d", put("q", 10, "7"), put("q", 20, "8")))
	return b
}

// 15.6: the rows from where the question begins on, in its direction, and with all cells: its other bounds are not asked for.
func TestRows(t *testing.T) {
	b := abc(t)
	a, bb, d := `a: p@5="3" q@5="2" g.q@4="4"`, `b: q@8="5"`, `d: q@10="7"`
	for _, c := range []struct {
		q    api.Query
		want string
	}{
		{api.Query{}, a + "; " + bb + "; " + d},
		{api.Query{From: []byte("b")}, bb + "; " + d},
		{api.Query{From: []byte("a\x00")}, bb + "; " + d},
		{api.Query{From: []byte("c"), To: []byte("d")}, d},
		{api.Query{To: []byte("b")}, a + "; " + bb + "; " + d},
		{api.Query{From: []byte("e")}, ""},
		{api.Query{Reverse: true}, d + "; " + bb + "; " + a},
		{api.Query{Reverse: true, To: []byte("d")}, bb + "; " + a},
		{api.Query{Reverse: true, To: []byte("d\x00")}, d + "; " + bb + "; " + a},
		{api.Query{Reverse: true, From: []byte("b"), To: []byte("c")}, bb + "; " + a},
		{api.Query{Reverse: true, From: []byte("c")}, d + "; " + bb + "; " + a},
		{api.Query{Reverse: true, To: []byte("a")}, ""},
		{api.Query{Fams: []int{1}, Prefix: []byte("x"), Where: "ts = 1"}, a + "; " + bb + "; " + d},
		{api.Query{N: 2}, `a: p@5="3" q@5="2" q@3="1" g.q@4="4"; ` + bb + "; " + d},
		{api.Query{Time: 4}, `a: q@3="1" g.q@4="4"`},
		{api.Query{Time: 19}, a + "; " + bb + "; " + d},
		{api.Query{Time: 20}, a + "; " + bb + `; d: q@20="8"`},
		{api.Query{Time: 20, N: 16}, `a: p@5="3" q@5="2" q@3="1" g.q@4="4"; ` + bb + `; d: q@20="8" q@10="7"`},
		{api.Query{Time: 2}, ""},
		{api.Query{Time: 2, Reverse: true}, ""},
	} {
		c.q.N, c.q.Rows = max(c.q.N, 1), 1
		for range 2 {
			if got := textOf(all(t, b.rows(c.q))); got != c.want {
				t.Errorf("%+v: %s, want %s", c.q, got, c.want)
			}
			mustErr(t, "Flush", b.m.Flush(), api.OK)
		}
	}
	if b.x.Pins() != 0 {
		t.Errorf("%d views are held", b.x.Pins())
	}
}

// 15.6: with a token they go on behind its row, at its time.
func TestRowsBehindAToken(t *testing.T) {
	b := abc(t)
	for _, c := range []struct {
		q    api.Query
		want string
	}{
		{api.Query{N: 1, Rows: 1}, `b: q@8="5"; d: q@10="7"`},
		{api.Query{N: 1, Rows: 2}, `d: q@10="7"`},
		{api.Query{N: 1, Rows: 3}, ""},
		{api.Query{N: 1, Rows: 1, Reverse: true}, `b: q@8="5"; a: p@5="3" q@5="2" g.q@4="4"`},
		{api.Query{N: 1, Rows: 1, Reverse: true, To: []byte("c")}, `a: p@5="3" q@5="2" g.q@4="4"`},
		{api.Query{N: 1, Rows: 1, From: []byte("b"), To: []byte("c")}, `d: q@10="7"`},
	} {
		p, err := b.m.Query(c.q)
		mustErr(t, "Query", err, api.OK)
		if len(p.Token) == 0 {
			t.Fatalf("%+v: no token", c.q)
		}
		c.q.Token = p.Token
		if got := textOf(all(t, b.rows(c.q))); got != c.want {
			t.Errorf("%+v: %s, want %s", c.q, got, c.want)
		}
	}
	q := api.Query{N: 1, Rows: 1}
	p, err := b.m.Query(q)
	mustErr(t, "Query", err, api.OK)
	b.do(tick(15))
	b.do(mutate("d", put("q", 0, "9")))
	q.Token = p.Token
	if got := textOf(all(t, b.rows(q))); got != `b: q@8="5"` {
		// Of d two versions are kept, and both are later than the token's time.
		t.Errorf("%s", got)
	}
}

// 15.6: rows of the greatest length: behind one there is no room for a byte more.
func TestRowsOfTheGreatestLength(t *testing.T) {
	x := strings.Repeat("x", 256)
	last := strings.Repeat("\xff", 256)
	names := []string{"a", x[:255], x, x[:255] + "y", "y", last[:255], last}
	for _, flush := range []bool{false, true} {
		b := begin(t, one)
		for _, row := range names {
			b.do(mutate(row, put("q", 0, "v"), put("p", 0, "w")))
			if flush {
				mustErr(t, "Flush", b.m.Flush(), api.OK)
			}
		}
		for i := range names {
			forward := api.Query{N: 1, Rows: i + 1}
			p, err := b.m.Query(forward)
			mustErr(t, "Query", err, api.OK)
			forward.Token = p.Token
			mustBeNamed(t, all(t, b.rows(forward)), names[i+1:])
			mustBeNamed(t, all(t, b.rows(api.Query{N: 1, Rows: 1, From: []byte(names[i])})), names[i:])
			back := api.Query{N: 1, Rows: len(names) - i, Reverse: true}
			if p, err = b.m.Query(back); err != api.OK {
				t.Fatal(err)
			}
			back.Token = p.Token
			mustBeNamed(t, all(t, b.rows(back)), turned(names[:i]))
			mustBeNamed(t, all(t, b.rows(api.Query{N: 1, Rows: 1, To: []byte(names[i]), Reverse: true})), turned(names[:i]))
		}
		// A row that has come to be longer than all, and one that is gone, behind a token.
		q := api.Query{N: 1, Rows: 3}
		p, _ := b.m.Query(q)
		q.Token = p.Token
		b.do(mutate(x, api.Op{Kind: api.OFam}))
		mustBeNamed(t, all(t, b.rows(q)), names[3:])
	}
}

func turned(names []string) []string {
	var out []string
	for i := range names {
		out = append(out, names[len(names)-1-i])
	}
	return out
}

func mustBeNamed(t *testing.T, rows []api.Row, names []string) {
	t.Helper()
	if len(rows) != len(names) {
		t.Fatalf("%d rows, want %d", len(rows), len(names))
	}
	for i, r := range rows {
		if string(r.Row) != names[i] || len(r.Cells) != 2 {
			t.Fatalf("row %d: %q, want %q", i, r.Row, names[i])
		}
	}
}

// 15.6: they are told of what was applied when they were asked for, at the clock of then, whatever comes meanwhile.
func TestRowsAreFixed(t *testing.T) {
	for _, reverse := range []bool{false, true} {
		b := abc(t)
		q := api.Query{N: 16, Rows: 1, Time: api.MaxTime, Reverse: reverse}
		want := all(t, b.rows(q))
		r := b.rows(q)
		var got []api.Row
		change := []func(){
			func() { b.do(tick(11)) }, // all of g has gone
			func() {
				for _, row := range []string{"a", "aa", "b", "c", "d", "e"} {
					b.do(mutate(row, api.Op{Kind: api.OFam}, put("q", 50, "new")))
				}
			},
			func() { mustErr(t, "Flush", b.m.Flush(), api.OK) },
			func() { b.do(mutate("d", api.Op{Kind: api.OFam, Ts: api.MaxTime})) },
		}
		for _, f := range change {
			f()
			row, more, err := r.Next()
			mustErr(t, "Next", err, api.OK)
			if more {
				got = append(got, row)
			}
		}
		if !same(got, want) || len(want) != 3 {
			t.Errorf("%s, want %s", textOf(got), textOf(want))
		}
	}
}

// 15.6: the view is held until the end was told, an error, or Close; what Next tells from then on.
func TestRowsEnd(t *testing.T) {
	b := abc(t)
	for _, reverse := range []bool{false, true} {
		q := api.Query{N: 1, Rows: 1, Reverse: reverse}
		told := func(r *machine.Rows, wantMore bool, want api.Errno, pins int) {
			t.Helper()
			row, more, err := r.Next()
			if more != wantMore || err != want || !more && !same(row, api.Row{}) || b.x.Pins() != pins {
				t.Fatalf("%+v, %v, %d, %d views are held", row, more, err, b.x.Pins())
			}
		}
		r := b.rows(q)
		if b.x.Pins() != 1 {
			t.Fatalf("%d views are held", b.x.Pins())
		}
		for range 3 {
			told(r, true, api.OK, 1)
		}
		for range 3 {
			told(r, false, api.OK, 0)
		}
		r.Close()
		told(r, false, api.ErrReleased, 0)
		for n := range 4 {
			r, other := b.rows(q), b.rows(q)
			for range n {
				told(r, true, api.OK, 2)
			}
			for range 3 {
				r.Close()
				told(r, false, api.ErrReleased, 1)
			}
			told(other, true, api.OK, 1)
			other.Close()
			told(r, false, api.ErrReleased, 0)
		}
	}
}

// 15.6: an error of the tree is told from then on, and nothing is held any more.
func TestRowsThatCannotBeRead(t *testing.T) {
	b := spoilt(t)
	for _, c := range []struct {
		q    api.Query
		want string
		err  api.Errno
	}{
		{api.Query{}, "", api.ErrTwice}, // the entry behind a's, which might be a's too, can't be read
		{api.Query{Reverse: true}, "", api.ErrTwice},
		{api.Query{Reverse: true, From: []byte("n")}, "", api.ErrTwice},
		{api.Query{From: []byte("n")}, `z: q@2="v"`, api.OK},
		{api.Query{From: []byte("k")}, "", api.ErrTwice},
		{api.Query{From: []byte("m")}, "", api.ErrTwice},
	} {
		c.q.N, c.q.Rows = 1, 9
		r := b.rows(c.q)
		var got []api.Row
		for range 9 {
			row, more, err := r.Next()
			if more {
				got = append(got, row)
				continue
			}
			if err != c.err || !same(row, api.Row{}) || b.x.Pins() != 0 {
				t.Fatalf("%+v: %+v, %d, %d views are held", c.q, row, err, b.x.Pins())
			}
		}
		if textOf(got) != c.want {
			t.Errorf("%+v: %s, want %s", c.q, textOf(got), c.want)
		}
		r.Close()
		if _, _, err := r.Next(); err != api.ErrReleased {
			t.Errorf("%+v: %d behind Close", c.q, err)
		}
	}
}

// 15.6: which error comes first; with one there are no rows, and nothing is held.
func TestRowsRefused(t *testing.T) {
	b := abc(t)
	good := api.Query{N: 1, Rows: 1}
	p, _ := b.m.Query(good)
	refuses := func(what string, q api.Query, want api.Errno, pins int) {
		t.Helper()
		if r, err := b.m.Rows(q); r != nil || err != want {
			t.Errorf("%s: Rows: %v, %d, want %d", what, r, err, want)
		}
		if p, err := b.m.Query(q); !same(p, api.Page{}) || err != want {
			t.Errorf("%s: Query: %+v, %d, want %d", what, p, err, want)
		}
		if b.x.Pins() != pins {
			t.Errorf("%s: %d views are held", what, b.x.Pins())
		}
	}
	wrong := map[string]struct {
		q   api.Query
		err api.Errno
	}{
		"no question":         {api.Query{}, api.ErrQuery},
		"no condition":        {api.Query{N: 1, Rows: 1, Where: "x"}, api.ErrWhere},
		"no token":            {api.Query{N: 1, Rows: 1, Token: []byte("x")}, api.ErrToken},
		"another's token":     {api.Query{N: 2, Rows: 1, Token: p.Token}, api.ErrToken},
		"a family too many":   {api.Query{N: 1, Rows: 1, Fams: []int{2}}, api.ErrQuery},
		"a row too long":      {api.Query{N: 1, Rows: 1, From: make([]byte, 257)}, api.ErrQuery},
		"more rows than pass": {api.Query{N: 1, Rows: 1001}, api.ErrQuery},
	}
	for what, c := range wrong {
		refuses(what, c.q, c.err, 0)
	}
	held := b.pins(62)
	r := b.rows(good)
	refuses("63 views", good, api.ErrPins, 63)
	for what, c := range wrong {
		refuses(what, c.q, c.err, 63)
	}
	held = append(held, b.pins(1)...)
	refuses("64 views", good, api.ErrPins, 64)
	b.goDown()
	refuses("down, and 64 views", good, api.ErrDown, 64)
	held[62].Release()
	refuses("down, and 63 views", good, api.ErrDown, 63)
	r.Close()
	refuses("down", good, api.ErrDown, 62)
	for what, c := range wrong {
		refuses(what, c.q, c.err, 62)
	}
}

// 15.6: Query is what query.Run makes of Rows; it changes nothing.
func TestQuery(t *testing.T) {
	r := rand.New(rand.NewSource(156))
	b := abc(t)
	for i := range 40 {
		b.do(mutate("r"+strconv.Itoa(10+i), put("q", 1+r.Intn(20), strconv.Itoa(i)), ofG(put("p", 1+r.Intn(20), strconv.Itoa(i)))))
		if i%9 == 0 {
			mustErr(t, "Flush", b.m.Flush(), api.OK)
		}
	}
	was := b.picture()
	pages := 0
	for range 300 {
		q := drawQuestion(r, two)
		for {
			rows := b.rows(q)
			want, wantErr := query.Run(two, q, b.x.Clock(), rows)
			rows.Close()
			got, err := b.m.Query(q)
			if !same(got, want) || err != wantErr || err != api.OK || b.x.Pins() != 0 {
				t.Fatalf("%+v: %+v, %d, want %+v, %d", q, got, err, want, wantErr)
			}
			if pages++; got.Done {
				break
			}
			q.Token = got.Token
		}
	}
	if !samePicture(b.picture(), was) || pages < 1000 {
		t.Errorf("%d pages, %+v, want %+v", pages, b.picture(), was)
	}
}

// 15.6: the digest, by hand: what is visible, packed, in order.
func TestDigest(t *testing.T) {
	b := begin(t, two)
	if b.digest() != 0 {
		t.Errorf("%d of nothing", b.digest())
	}
	b.do(tick(4))
	b.do(mutate("b", put("q", 3, "gone"), put("q", 2, "too old"), put("q", 9, "later")))
	b.do(mutate("a", put("n", 0, "n"), put("m", 0, "m"), kill(api.OCell, "m", 5), ofG(put("q", 4, "ttl"))))
	b.do(mutate("b", kill(api.OCell, "q", 3), put("z", 0, "")))
	of := func(l ...api.Entry) uint32 {
		var sum []byte
		for _, e := range l {
			p, err := cell.Pack(e)
			mustErr(t, "Pack", err, api.OK)
			sum = append(sum, p...)
		}
		return wire.Sum(sum)
	}
	an := api.Entry{Row: []byte("a"), Qual: []byte("n"), Ts: 5, Seq: 48, Kind: api.KPut, Value: []byte("n")}
	ag := api.Entry{Row: []byte("a"), Fam: 1, Qual: []byte("q"), Ts: 4, Seq: 51, Kind: api.KPut, Value: []byte("ttl")}
	bq := api.Entry{Row: []byte("b"), Qual: []byte("q"), Ts: 9, Seq: 34, Kind: api.KPut, Value: []byte("later")}
	bz := api.Entry{Row: []byte("b"), Qual: []byte("z"), Ts: 5, Seq: 65, Kind: api.KPut}
	if got, want := b.digest(), of(an, ag, bq, bz); got != want {
		t.Errorf("%x, want %x", got, want)
	}
	mustErr(t, "Flush", b.m.Flush(), api.OK)
	if got, want := b.digest(), of(an, ag, bq, bz); got != want {
		t.Errorf("%x, want %x", got, want)
	}
	b.do(tick(9))
	if got, want := b.digest(), of(an, bq, bz); got != want {
		t.Errorf("%x, want %x", got, want)
	}
	b.do(mutate("c", put("q", 7, "1"), put("q", 8, "2"), put("q", 6, "3")))
	c1 := api.Entry{Row: []byte("c"), Qual: []byte("q"), Ts: 7, Seq: 96, Kind: api.KPut, Value: []byte("1")}
	c2 := api.Entry{Row: []byte("c"), Qual: []byte("q"), Ts: 8, Seq: 97, Kind: api.KPut, Value: []byte("2")}
	if got, want := b.digest(), of(an, bq, bz, c2, c1); got != want {
		t.Errorf("%x, want %x", got, want)
	}
	if b.x.Pins() != 0 {
		t.Errorf("%d views are held", b.x.Pins())
	}
}

// drawQuestion is one that Check takes, of few rows.
func drawQuestion(r *rand.Rand, s api.Schema) api.Query {
	q := api.Query{N: 1 + r.Intn(3), Rows: 1 + r.Intn(6), Reverse: r.Intn(2) == 0, Time: []int{0, 0, api.MaxTime, 1 + r.Intn(20)}[r.Intn(4)]}
	edges := []string{"", "", "", "a", "b", "b\x00", "c", "d", "r", "r2", "r33"}
	q.From, q.To = []byte(edges[r.Intn(len(edges))]), []byte(edges[r.Intn(len(edges))])
	if len(q.To) > 0 && bytes.Compare(q.From, q.To) >= 0 {
		q.From = nil
	}
	if r.Intn(4) == 0 {
		q.Fams = []int{r.Intn(len(s.Fams))}
	}
	if r.Intn(4) == 0 {
		q.Prefix = []byte{"npq"[r.Intn(3)]}
	}
	q.Where = []string{"", "", "ts > 4", `value != "5"`, "fam = f"}[r.Intn(5)]
	return q
}
