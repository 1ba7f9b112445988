package machine_test

import (
	"bytes"
	"math"
	"math/rand"
	"slices"
	"testing"

	"strata/api"
	"strata/machine"
)

// roomy is bytes with spare room behind them that can be looked at.
func roomy(b []byte) []byte {
	whole := slices.Concat(b, bytes.Repeat([]byte{0xc3}, 32))
	return whole[:len(b):len(whole)]
}

// scribble writes over bytes and their spare room.
func scribble(b []byte) {
	b = b[:cap(b)]
	for i := range b {
		b[i] = ^b[i]
	}
}

// 15.7: a command that is handed in is neither changed nor kept; a reply is its caller's own.
func TestCommandsAndReplies(t *testing.T) {
	r := rand.New(rand.NewSource(157))
	b := begin(t, two)
	m := newModel(two)
	for range 600 {
		c := drawCommand(r, m)
		want := m.apply(c)
		handed := roomy(c)
		was := bytes.Clone(handed[:cap(handed)])
		got := b.raw(handed)
		if !bytes.Equal(handed[:cap(handed)], was) {
			t.Fatalf("%x was changed", c)
		}
		scribble(handed)
		if !bytes.Equal(got, want) {
			t.Fatalf("%x, want %x", got, want)
		}
		scribble(got)
		if !samePicture(b.picture(), m.picture()) {
			t.Fatalf("%+v, want %+v", b.picture(), m.picture())
		}
	}
}

// 15.7: what is told is its caller's own, and so are two answers of one call.
func TestAnswersAreNewMemory(t *testing.T) {
	b := abc(t)
	b.do(openSession)
	b.do(openSession)
	b.do(in(6, 1, mutate("a", add("n", 3))))
	b.do(in(7, 1, mutate("a", add("n", 3))))
	was := b.picture()
	for range 2 {
		s := b.m.Stat()
		scribble(s.Sessions[0].Reply)
		if !same(s.Sessions[1], was.stat.Sessions[1]) {
			t.Fatal("two replies share memory")
		}
		clear(s.Sessions[:cap(s.Sessions)])
		scribble(b.m.State())
		p, err := b.m.Query(everything)
		mustErr(t, "Query", err, api.OK)
		for _, row := range p.Rows {
			scribbleRow(row)
		}
		scribble(p.Token)
		mustErr(t, "Flush", b.m.Flush(), api.OK)
		if !samePicture(b.picture(), was) {
			t.Fatalf("%+v, want %+v", b.picture(), was)
		}
	}
	for range 3 {
		first := decode(t, b.raw(b.encode(in(6, 1, noopOf()))))
		if !same(first, held(3)) {
			t.Fatalf("%+v", first)
		}
		again := b.raw(b.encode(in(6, 1, noopOf())))
		scribble(again)
	}
}

func scribbleRow(row api.Row) {
	scribble(row.Row)
	for _, c := range row.Cells {
		scribble(c.Qual)
		scribble(c.Value)
	}
	clear(row.Cells[:cap(row.Cells)])
}

// 15.7: rows that were told may be written over while the next ones are; no two lists of one share memory.
func TestRowsAreNewMemory(t *testing.T) {
	b := abc(t)
	mustErr(t, "Flush", b.m.Flush(), api.OK)
	b.do(mutate("e", put("q", 0, "9")))
	for _, reverse := range []bool{false, true} {
		q := api.Query{N: 16, Rows: 1, Time: api.MaxTime, Reverse: reverse}
		want := all(t, b.rows(q))
		r := b.rows(q)
		for _, w := range want {
			row, more, err := r.Next()
			if !more || err != api.OK || !same(row, w) {
				t.Fatalf("%+v, want %+v", row, w)
			}
			mustShareNothing(t, row, w)
		}
		r.Close()
	}
}

func rowLists(r *api.Row) [][]byte {
	out := [][]byte{r.Row}
	for _, c := range r.Cells {
		out = append(out, c.Qual, c.Value)
	}
	return out
}

func mustShareNothing(t *testing.T, got, want api.Row) {
	t.Helper()
	l, w := rowLists(&got), rowLists(&want)
	for i := range l {
		scribble(l[i])
		for j := i + 1; j < len(l); j++ {
			if !bytes.Equal(l[j], w[j]) {
				t.Fatalf("the lists %d and %d of %+v share memory", i, j, want)
			}
		}
	}
	clear(got.Cells[:cap(got.Cells)])
}

// 15.7: a question that is handed in is neither changed nor kept, while its rows are told neither.
func TestQuestionsAreNotKept(t *testing.T) {
	b := abc(t)
	for _, reverse := range []bool{false, true} {
		for _, token := range []bool{false, true} {
			ask := func() api.Query {
				q := api.Query{From: roomy([]byte("a")), To: roomy([]byte("d")), Fams: []int{0, 1, 77}[:2], Prefix: roomy([]byte("q")), N: 1, Rows: 1, Reverse: reverse}
				if token {
					p, err := b.m.Query(q)
					mustErr(t, "Query", err, api.OK)
					q.Token = roomy(p.Token)
				}
				return q
			}
			want := all(t, b.rows(ask()))
			q, was := ask(), ask()
			r := b.rows(q)
			if _, err := b.m.Query(q); err != api.OK || !same(deep(q), deep(was)) {
				t.Fatalf("%d, %+v, want %+v", err, deep(q), deep(was))
			}
			for _, l := range [][]byte{q.From, q.To, q.Prefix, q.Token} {
				scribble(l)
			}
			clear(q.Fams[:3])
			if got := all(t, r); !same(got, want) || len(want) == 0 {
				t.Errorf("%s, want %s", textOf(got), textOf(want))
			}
		}
	}
}

// deep is a copy of a question with all of its spare room as if it were there.
func deep(q api.Query) api.Query {
	for _, l := range []*[]byte{&q.From, &q.To, &q.Prefix, &q.Token} {
		*l = bytes.Clone((*l)[:cap(*l)])
	}
	q.Fams = slices.Clone(q.Fams[:cap(q.Fams)])
	return q
}

// 15.7: two machines have nothing in common.
func TestTwoMachines(t *testing.T) {
	a, b := begin(t, one), begin(t, one)
	a.do(openSession)
	a.do(in(1, 1, mutate("a", put("q", 0, "x"))))
	a.do(tick(4))
	if s := b.m.Stat(); !same(s, api.MachineStat{Clock: 1}) || b.digest() != 0 {
		t.Errorf("%+v", s)
	}
	b.do(openSession)
	b.do(tick(64))
	a.has("1:1@1+")
}

// 15.7: whatever bytes and values come, every call ends, and none panics; beside an error there is nothing.
func TestWhateverValuesCome(t *testing.T) {
	r := rand.New(rand.NewSource(1570))
	wild := []int{math.MinInt, -1, 0, 1, 2, 3, 9, 16, 17, 1000, 1001, 1 << 40, 1<<40 + 1, math.MaxInt}
	draw := func() int { return wild[r.Intn(len(wild))] }
	noise := func() []byte {
		l := make([]byte, []int{0, 0, 1, 2, 12, 30, 256, 257, 600}[r.Intn(9)])
		r.Read(l)
		return l
	}
	for range 20 {
		b := begin(t, two)
		m := newModel(two)
		var open []*machine.Rows
		for range 300 {
			c := drawCommand(r, m)
			for range r.Intn(3) {
				c = spoil(r, c)
			}
			m.apply(c)
			b.raw(c)
			if p, err := b.m.Apply(draw(), c); err != api.OK && p != nil {
				t.Fatalf("%x beside %d", p, err)
			} else if err == api.OK {
				m.apply(c)
			}
			q := api.Query{From: noise(), To: noise(), Prefix: noise(), Time: draw(), N: draw(), Rows: draw(), Reverse: r.Intn(2) == 0, Token: noise()}
			if r.Intn(2) == 0 {
				q = drawQuestion(r, two)
			}
			if p, err := b.m.Query(q); err != api.OK && !same(p, api.Page{}) {
				t.Fatalf("%+v beside %d", p, err)
			}
			if x, err := b.m.Rows(q); err == api.OK {
				open = append(open, x)
			} else if x != nil {
				t.Fatalf("%v beside %d", x, err)
			}
			if len(open) > 0 {
				x := open[r.Intn(len(open))]
				x.Next()
				if r.Intn(4) == 0 {
					x.Close()
				}
			}
		}
		if !same(b.m.Stat(), m.stat()) {
			t.Fatalf("%+v, want %+v", b.m.Stat(), m.stat())
		}
		for _, x := range open {
			x.Close()
		}
		if b.x.Pins() != 0 || !samePicture(b.picture(), m.picture()) {
			t.Fatalf("%d views are held, %+v, want %+v", b.x.Pins(), b.picture(), m.picture())
		}
	}
}

// spoil turns, cuts or lengthens a command's bytes.
func spoil(r *rand.Rand, c []byte) []byte {
	c = bytes.Clone(c)
	switch n := len(c); {
	case n > 0 && r.Intn(2) == 0:
		c[r.Intn(n)] ^= 1 << r.Intn(8)
	case n > 0 && r.Intn(2) == 0:
		c = c[:r.Intn(n)]
	default:
		c = append(c, byte(r.Intn(256)))
	}
	return c
}
