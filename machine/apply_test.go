package machine_test

import (
	"bytes"
	"math"
	"strconv"
	"testing"

	"strata/api"
	"strata/merge"
	"strata/order"
	"strata/run"
	"strata/tree"
)

// 15.3 to 15.6: the chapter's examples.
func TestExamples(t *testing.T) {
	b := begin(t, one)
	b.want(openSession, value(1))
	first := in(1, 1, mutate("a", put("q", 0, "x")))
	b.want(first, held(0))
	b.want(first, held(0))
	b.want(in(1, 3, mutate("a", put("q", 0, "x"))), refused(api.ErrSerial))
	b.want(in(1, 2, given(mutate("a", kill(api.OCol, "q", 0)), cond(api.CSame, "q", "y"))), api.Reply{})
	b.shows(everything, `a: q@1="x"`)
	b.want(tick(5), value(6))
	b.want(mutate("a", add("n", 7)), held(7))
	b.shows(everything, `a: n@6=7 q@1="x"`)
	b.want(mutate("a", add("n", 2), add("n", 3)), held(12))
	b.want(mutate("a", add("q", 1)), refused(api.ErrNumber))
	b.want(advance(6), refused(api.ErrBack))
	b.want(advance(5), value(5))
	b.want(mutate("a", put("q", 9, "z"), put("q", 5, "w")), refused(api.ErrLate))
	if got := decode(t, b.raw([]byte("no command"))); !same(got, refused(api.ErrCommand)) {
		t.Errorf("%+v", got)
	}
	b.want(tick(64), value(70))
	b.has("")
	b.want(in(1, 3, mutate("a", put("q", 0, "x"))), refused(api.ErrSession))
	if r, err := b.m.Apply(17, b.encode(noop)); r != nil || err != api.ErrIndex {
		t.Errorf("%x, %d", r, err)
	}
	b.shows(everything, `a: n@6=12 q@1="x"`)
}

// 15.3: an index that is not the next one changes nothing, whatever the command is.
func TestWrongIndex(t *testing.T) {
	b := begin(t, one)
	b.do(openSession)
	b.do(in(1, 1, mutate("a", add("n", 1))))
	was := b.picture()
	commands := [][]byte{nil, b.encode(noop), b.encode(openSession), b.encode(tick(100)), b.encode(in(1, 1, closeSession)), b.encode(in(1, 2, mutate("a", add("n", 1)))), b.encode(read(everything)), make([]byte, api.MaxCommand+1)}
	for _, index := range []int{2, 1, 0, -1, 4, 5, api.MaxIndex, api.MaxIndex + 1, math.MaxInt, math.MinInt} {
		for _, c := range commands {
			if r, err := b.m.Apply(index, c); r != nil || err != api.ErrIndex {
				t.Errorf("%d: %x, %d", index, r, err)
			}
		}
	}
	if !samePicture(b.picture(), was) || b.x.Pins() != 0 {
		t.Errorf("%+v, want %+v", b.picture(), was)
	}
	// It comes ahead of what the command needs.
	b.pins(64)
	for _, index := range []int{2, 4} {
		if r, err := b.m.Apply(index, b.encode(read(everything))); r != nil || err != api.ErrIndex {
			t.Errorf("%d: %x, %d", index, r, err)
		}
	}
}

// 15.3: behind the last index there is none; at it a mutation has the greatest Seqs.
func TestLastIndex(t *testing.T) {
	b := installed(t, one, api.Image{Index: api.MaxIndex - 2, Clock: 5, Low: 1})
	b.want(openSession, value(api.MaxIndex-1))
	var ops []api.Op
	for i := range 16 {
		ops = append(ops, put(string(rune('a'+i)), 0, "v"))
	}
	b.want(in(api.MaxIndex-1, 1, mutate("r", ops...)), held(0))
	if l := b.entries(); len(l) != 16 || l[15].Seq != api.MaxSeq {
		t.Errorf("%+v", l)
	}
	was := b.picture()
	for _, index := range []int{api.MaxIndex, api.MaxIndex + 1, api.MaxIndex + 2} {
		if r, err := b.m.Apply(index, b.encode(noop)); r != nil || err != api.ErrIndex {
			t.Errorf("%d: %x, %d", index, r, err)
		}
	}
	if !samePicture(b.picture(), was) {
		t.Errorf("%+v, want %+v", b.picture(), was)
	}
	mustErr(t, "Flush", b.m.Flush(), api.OK)
	b.open()
	if !samePicture(b.picture(), was) {
		t.Errorf("%+v, want %+v", b.picture(), was)
	}
	b.pins(64)
	if r, err := b.m.Apply(api.MaxIndex+1, b.encode(read(everything))); r != nil || err != api.ErrIndex {
		t.Errorf("%x, %d", r, err)
	}
}

// 15.3: what is no command takes its index, and nothing else comes of it.
func TestBytesThatAreNoCommand(t *testing.T) {
	b := begin(t, one)
	b.do(openSession)
	b.do(mutate("a", put("q", 0, "x")))
	was := b.picture()
	good := b.encode(in(1, 1, mutate("a", put("q", 0, "y"))))
	// Of another schema it would be one.
	other, err := order.Encode(two, mutate("a", ofG(put("q", 0, "y"))))
	mustErr(t, "Encode", err, api.OK)
	for i, c := range []struct {
		raw []byte
		err api.Errno
	}{
		{nil, api.ErrCommand}, {[]byte{0}, api.ErrCommand}, {[]byte{8}, api.ErrCommand}, {good[:len(good)-1], api.ErrCommand}, {append(bytes.Clone(good), 0), api.ErrCommand},
		{other, api.ErrCommand}, {make([]byte, api.MaxCommand), api.ErrCommand}, {make([]byte, api.MaxCommand+1), api.ErrLong},
	} {
		if got := decode(t, b.raw(c.raw)); !same(got, refused(c.err)) {
			t.Errorf("%d: %+v", i, got)
		}
		was.stat.Applied++
		if !samePicture(b.picture(), was) {
			t.Fatalf("%d: %+v, want %+v", i, b.picture(), was)
		}
	}
}

// 15.3: the commands' table, but for mutations and reads.
func TestKinds(t *testing.T) {
	b := begin(t, one)
	was := b.picture()
	b.want(noop, api.Reply{})
	was.stat.Applied++
	if !samePicture(b.picture(), was) {
		t.Errorf("%+v", b.picture())
	}
	stands := func(clock, low int) {
		t.Helper()
		if s := b.m.Stat(); s.Clock != clock || s.Low != low || b.x.Clock() != clock || b.x.Low() != low {
			t.Errorf("%+v", s)
		}
	}
	b.want(advance(1), refused(api.ErrBack))
	b.want(advance(0), value(0))
	stands(1, 0)
	b.want(tick(1), value(2))
	b.want(tick(3), value(5))
	stands(5, 0)
	b.want(advance(5), refused(api.ErrBack))
	b.want(advance(6), refused(api.ErrBack))
	b.want(advance(api.MaxTime), refused(api.ErrBack))
	stands(5, 0)
	b.want(advance(3), value(3))
	b.want(advance(3), value(3))
	b.want(advance(2), refused(api.ErrBack))
	b.want(advance(0), refused(api.ErrBack))
	stands(5, 3)
	b.want(advance(4), value(4))
	stands(5, 4)
	b.want(tick(api.MaxTime), refused(api.ErrLast))
	b.want(tick(api.MaxTime-4), refused(api.ErrLast))
	stands(5, 4)
	b.want(tick(api.MaxTime-5), value(api.MaxTime))
	b.want(tick(1), refused(api.ErrLast))
	stands(api.MaxTime, 4)
	b.want(advance(api.MaxTime), refused(api.ErrBack))
	b.want(advance(api.MaxTime-1), value(api.MaxTime-1))
	stands(api.MaxTime, api.MaxTime-1)
	b.want(mutate("a", put("q", 0, "x"), put("p", api.MaxTime, "y"), add("n", 1)), held(1))
	b.want(mutate("a", put("q", api.MaxTime-1, "x")), refused(api.ErrLate))
	b.shows(everything, `a: n@1099511627776=1 p@1099511627776="y" q@1099511627776="x"`)
}

// 15.3: a read is answered behind all that was applied, at the clock of then, as Query answers it.
func TestReads(t *testing.T) {
	b := begin(t, two)
	for i := range 5 {
		b.do(mutate("r"+strconv.Itoa(i), put("q", i+1, "v"), ofG(put("p", i+1, "w"))))
	}
	for _, clock := range []int{1, 3, 4, 5, 8, 11, 12, 15} {
		if n := clock - b.x.Clock(); n > 0 {
			b.do(tick(n))
		}
		for _, q := range []api.Query{{N: 1, Rows: 2}, {N: 1, Rows: 9, Reverse: true}, everything, {N: 1, Rows: 9, Time: 3}, {N: 1, Rows: 9, Where: `fam = g`}, {N: 2, Rows: 1, From: []byte("r1"), To: []byte("r4")}} {
			for {
				page, err := b.m.Query(q)
				mustErr(t, "Query", err, api.OK)
				b.want(read(q), api.Reply{Page: page})
				if page.Done {
					break
				}
				q.Token = page.Token
			}
		}
	}
	b.do(mutate("r9", put("q", 0, "now")))
	b.want(read(api.Query{N: 1, Rows: 1, From: []byte("r5"), Prefix: []byte("q")}), api.Reply{Page: api.Page{Rows: []api.Row{{Row: []byte("r9"), Cells: []api.Cell{{Qual: []byte("q"), Ts: 15, Value: []byte("now")}}}}, Token: lastToken(b, "r5")}})
	if b.x.Pins() != 0 {
		t.Errorf("%d views are held", b.x.Pins())
	}
}

func lastToken(b *bench, from string) []byte {
	p, err := b.m.Query(api.Query{N: 1, Rows: 1, From: []byte(from), Prefix: []byte("q")})
	mustErr(b, "Query", err, api.OK)
	return p.Token
}

// big is a bench with more than a reply takes: 300 rows of the greatest value.
func big(t *testing.T) *bench {
	b := begin(t, one)
	v := string(bytes.Repeat([]byte("v"), api.MaxValue))
	for i := range 300 {
		b.want(mutate("r"+strconv.Itoa(100+i), put("q", 0, v)), held(0))
	}
	return b
}

// 15.3, 15.4: a page that is too long for a reply is ErrLong, and nothing else; of a session that serial is done.
func TestLongPages(t *testing.T) {
	b := big(t)
	p, err := b.m.Query(everything)
	if len(p.Rows) != 300 || err != api.OK {
		t.Fatalf("%d rows, %d", len(p.Rows), err)
	}
	b.want(read(everything), refused(api.ErrLong))
	b.want(openSession, value(302))
	b.want(in(302, 1, read(everything)), refused(api.ErrLong))
	b.has("302:1@1")
	b.want(in(302, 1, read(everything)), refused(api.ErrLong))
	if r := b.do(in(302, 1, read(api.Query{N: 1, Rows: 250}))); r.Err != api.OK || len(r.Page.Rows) != 250 {
		t.Errorf("%d, %d rows", r.Err, len(r.Page.Rows))
	}
	b.want(in(302, 2, read(everything)), refused(api.ErrLong))
	b.has("302:2@1")
	b.want(in(302, 3, noopOf()), held(0))
	b.has("302:3@1+")
	mustErr(t, "Flush", b.m.Flush(), api.OK)
}

// noopOf is a mutation without a condition and without an effect that anybody looks at here.
func noopOf() api.Command { return mutate("z", put("q", 0, "z")) }

// goDown lets the disk go down in a Flush, behind which all that writes answers ErrDown.
func (b *bench) goDown() {
	b.Helper()
	b.d.Arm(1)
	mustErr(b, "Flush", b.m.Flush(), api.ErrDown)
}

// 15.3, 15.6: a tree that is down: Apply refuses all, whatever the index and the command are; Stat and State tell what they told.
func TestDown(t *testing.T) {
	b := begin(t, one)
	b.do(openSession)
	b.do(in(1, 1, mutate("a", add("n", 1))))
	rows, err := b.m.Rows(everything)
	mustErr(t, "Rows", err, api.OK)
	stat, state := b.m.Stat(), b.m.State()
	b.goDown()
	commands := [][]byte{nil, b.encode(noop), b.encode(openSession), b.encode(tick(100)), b.encode(advance(9)), b.encode(in(1, 1, mutate("a", add("n", 1)))), b.encode(in(1, 2, closeSession)),
		b.encode(in(1, 2, mutate("a", add("n", 1)))), b.encode(in(2, 1, closeSession)), b.encode(given(noopOf(), cond(api.CThere, "n", ""))), b.encode(read(everything)), b.encode(noopOf()), make([]byte, api.MaxCommand+1)}
	for _, index := range []int{3, 2, 4, 0, -1, api.MaxIndex + 1} {
		for _, c := range commands {
			if r, err := b.m.Apply(index, c); r != nil || err != api.ErrDown {
				t.Errorf("%d, %x: %x, %d", index, c[:min(9, len(c))], r, err)
			}
		}
	}
	if p, err := b.m.Query(everything); !same(p, api.Page{}) || err != api.ErrDown {
		t.Errorf("%+v, %d", p, err)
	}
	if r, err := b.m.Rows(everything); r != nil || err != api.ErrDown {
		t.Errorf("%v, %d", r, err)
	}
	if r, err := b.m.Rows(api.Query{}); r != nil || err != api.ErrQuery {
		t.Errorf("%v, %d", r, err)
	}
	if n, err := b.m.Digest(); n != 0 || err != api.ErrDown {
		t.Errorf("%d, %d", n, err)
	}
	mustErr(t, "Flush", b.m.Flush(), api.ErrDown)
	if !same(b.m.Stat(), stat) || !bytes.Equal(b.m.State(), state) {
		t.Errorf("%+v, want %+v", b.m.Stat(), stat)
	}
	if r, more, err := rows.Next(); textOf([]api.Row{r}) != "a: n@1=1" || !more || err != api.OK {
		t.Errorf("%+v, %v, %d", r, more, err)
	}
	if _, more, err := rows.Next(); more || err != api.OK {
		t.Errorf("%v, %d", more, err)
	}
}

// pins holds so many views more.
func (b *bench) pins(n int) []*tree.View {
	b.Helper()
	var l []*tree.View
	for range n {
		v, err := b.x.Pin()
		mustErr(b, "Pin", err, api.OK)
		l = append(l, v)
	}
	return l
}

// 15.3: where others hold all views and one is needed, nothing has changed; the last one Apply may have.
func TestPins(t *testing.T) {
	b := begin(t, one)
	b.do(openSession)
	b.do(in(1, 1, mutate("a", add("n", 1))))
	was := b.picture()
	held64 := b.pins(64)
	for _, c := range []api.Command{read(everything), mutate("a", add("n", 1)), in(1, 2, mutate("a", add("n", 1))), in(1, 2, read(everything)), given(noopOf(), cond(api.CAbsent, "n", "")), in(1, 2, given(noopOf(), cond(api.CThere, "n", "")))} {
		if r, err := b.m.Apply(3, b.encode(c)); r != nil || err != api.ErrPins {
			t.Errorf("%+v: %x, %d", c, r, err)
		}
	}
	if p, err := b.m.Query(everything); !same(p, api.Page{}) || err != api.ErrPins {
		t.Errorf("%+v, %d", p, err)
	}
	// One view is left now: a question leaves it, a command takes it.
	held64[0].Release()
	if !same(b.m.Stat(), was.stat) || !bytes.Equal(b.m.State(), was.state) || b.digest() != was.digest {
		t.Errorf("%+v, want %+v", b.m.Stat(), was.stat)
	}
	if p, err := b.m.Query(everything); !same(p, api.Page{}) || err != api.ErrPins {
		t.Errorf("%+v, %d", p, err)
	}
	if r, err := b.m.Rows(everything); r != nil || err != api.ErrPins {
		t.Errorf("%v, %d", r, err)
	}
	b.want(in(1, 2, mutate("a", add("n", 4))), held(5))
	b.want(given(noopOf(), cond(api.CThere, "q", "")), api.Reply{})
	b.want(in(1, 3, read(api.Query{N: 1, Rows: 9})), api.Reply{Page: api.Page{Rows: []api.Row{{Row: []byte("a"), Cells: []api.Cell{{Qual: []byte("n"), Ts: 1, Value: []byte(rising(5))}}}}, Done: true}})
	if b.x.Pins() != 63 {
		t.Errorf("%d views are held", b.x.Pins())
	}
	held64[1].Release()
	b.shows(everything, "a: n@1=5")
	if b.x.Pins() != 62 {
		t.Errorf("%d views are held", b.x.Pins())
	}
}

// 15.3: what needs no view is done where others hold all of them.
func TestWhatNeedsNoView(t *testing.T) {
	b := begin(t, one)
	b.do(openSession)
	b.do(in(1, 1, mutate("a", add("n", 1))))
	b.pins(64)
	b.want(noop, api.Reply{})
	b.want(tick(1), value(2))
	b.want(openSession, value(5))
	b.want(in(1, 1, mutate("a", add("n", 1))), held(1))
	b.want(in(1, 3, read(everything)), refused(api.ErrSerial))
	b.want(in(9, 1, read(everything)), refused(api.ErrSession))
	b.want(in(5, 1, closeSession), api.Reply{})
	b.has("1:1@2+")
}

// spoilt is a bench whose tree can't be read past the rows k and m: two runs do not agree on their entries q, of k the first one, of m the last one. (Of such a tree no more is promised than that nothing panics; it stands here for one whose block is broken.)
func spoilt(t *testing.T) *bench {
	t.Helper()
	e := func(row, qual string, seq int, value string) api.Entry {
		return api.Entry{Row: []byte(row), Qual: []byte(qual), Ts: 2, Seq: seq, Kind: api.KPut, Value: []byte(value)}
	}
	var runs [][]byte
	for i, l := range [][]api.Entry{
		{e("a", "q", 16, "v"), e("k", "q", 20, "x"), e("m", "o", 18, "v"), e("m", "p", 19, "v"), e("m", "q", 21, "x"), e("z", "q", 17, "v")},
		{e("k", "q", 20, "y"), e("m", "q", 21, "y")},
	} {
		r, err := run.Write(api.RunOpts{Block: 64, Index: 9 - i, Clock: 3}, l...)
		mustErr(t, "run.Write", err, api.OK)
		runs = append(runs, r)
	}
	b := installed(t, one, api.Image{Index: 9, Clock: 3, State: stateBytes(api.Session{Client: 5, Seen: 3}), Runs: runs})
	v, err := b.x.Pin()
	mustErr(t, "Pin", err, api.OK)
	defer v.Release()
	for from, want := range map[string]int{"": 1, "k": 0, "m": 2} {
		s, err := v.Walk([]byte(from), nil)
		mustErr(t, "Walk", err, api.OK)
		if l, err := merge.Take(s, 9); len(l) != want || err != api.ErrTwice {
			t.Fatalf("%+v, %d", l, err)
		}
	}
	return b
}

// 15.3, 15.6: what the tree can't read is its error, and then nothing has changed; what need not be read is done.
func TestWhatCannotBeRead(t *testing.T) {
	b := spoilt(t)
	stat, state := b.m.Stat(), b.m.State()
	for _, c := range []api.Command{read(everything), in(5, 1, read(everything)), in(5, 1, read(api.Query{N: 1, Rows: 1, Reverse: true})), read(api.Query{N: 1, Rows: 1, From: []byte("k")})} {
		if r, err := b.m.Apply(10, b.encode(c)); r != nil || err != api.ErrTwice {
			t.Errorf("%+v: %x, %d", c, r, err)
		}
	}
	for _, row := range []string{"k", "m"} {
		for _, c := range []api.Command{mutate(row, add("q", 1)), in(5, 1, mutate(row, put("q", 0, rising(1)), add("r", 1))), given(mutate(row, put("q", 0, "x")), cond(api.CThere, "q", "")), in(5, 1, given(mutate(row, put("q", 0, "x")), cond(api.CAbsent, "q", "")))} {
			if r, err := b.m.Apply(10, b.encode(c)); r != nil || err != api.ErrTwice {
				t.Errorf("%+v: %x, %d", c, r, err)
			}
		}
	}
	if n, err := b.m.Digest(); n != 0 || err != api.ErrTwice {
		t.Errorf("%d, %d", n, err)
	}
	if p, err := b.m.Query(everything); !same(p, api.Page{}) || err != api.ErrTwice {
		t.Errorf("%+v, %d", p, err)
	}
	if !same(b.m.Stat(), stat) || !bytes.Equal(b.m.State(), state) || b.x.Pins() != 0 {
		t.Errorf("%+v, want %+v; %d views are held", b.m.Stat(), stat, b.x.Pins())
	}
	b.want(in(5, 1, given(mutate("a", put("q", 0, "x")), cond(api.CSame, "q", "v"))), held(0))
	b.want(in(5, 2, given(mutate("z", put("q", 0, "x")), cond(api.CSame, "q", "v"))), held(0))
	b.want(in(5, 3, mutate("m", put("n", 0, "x"))), held(0))
	b.shows(api.Query{N: 1, Rows: 9, From: []byte("n")}, `z: q@3="x"`)
}
