package order_test

import (
	"bytes"
	"math/rand"
	"slices"
	"sync"
	"testing"

	"strata/api"
	"strata/order"
)

// roomy is bytes with spare room behind them that can be looked at.
func roomy(b []byte) []byte {
	whole := slices.Concat(b, bytes.Repeat([]byte{0xc3}, 32))
	return whole[:len(b):len(whole)]
}

// scribble writes over bytes and their spare room.
func scribble(b []byte) {
	b = b[:cap(b)]
	for i := range b {
		b[i] = ^b[i]
	}
}

// deep is a command with memory of its own, and something in the spare room of each list.
func deep(c api.Command) api.Command {
	c.Conds = append(slices.Clone(c.Conds), api.Cond{Kind: -7, Qual: []byte("spare")})
	c.Ops = append(slices.Clone(c.Ops), api.Op{Kind: -7, Qual: []byte("spare")})
	c.Query.Fams = append(slices.Clone(c.Query.Fams), -7)
	for _, b := range listsOf(&c) {
		*b = roomy(*b)
	}
	c.Conds = c.Conds[:len(c.Conds)-1]
	c.Ops = c.Ops[:len(c.Ops)-1]
	c.Query.Fams = c.Query.Fams[:len(c.Query.Fams)-1]
	return c
}

// whole is a copy of a command with all of its spare room as if it were there.
func whole(c api.Command) api.Command {
	c.Conds, c.Ops, c.Query.Fams = slices.Clone(c.Conds[:cap(c.Conds)]), slices.Clone(c.Ops[:cap(c.Ops)]), slices.Clone(c.Query.Fams[:cap(c.Query.Fams)])
	for _, b := range listsOf(&c) {
		*b = bytes.Clone((*b)[:cap(*b)])
	}
	return c
}

func scribbleAll(c api.Command) {
	x := c
	x.Conds, x.Ops, x.Query.Fams = c.Conds[:cap(c.Conds)], c.Ops[:cap(c.Ops)], c.Query.Fams[:cap(c.Query.Fams)]
	for _, b := range listsOf(&x) {
		scribble(*b)
	}
	clear(x.Conds)
	clear(x.Ops)
	clear(x.Query.Fams)
}

// 14.11: commands that are handed in are neither changed nor kept, nor what is behind them.
func TestCommandsHandedIn(t *testing.T) {
	r := rand.New(rand.NewSource(1411))
	for range 2000 {
		c := drawCommand(r, two)
		in := deep(c)
		was := whole(in)
		s := api.Schema{Fams: slices.Clone(two.Fams)}
		mustErr(t, "Check", order.Check(s, in), api.OK)
		b := encode(t, s, in)
		if !order.Same(in, in) || !same(whole(in), was) || !slices.Equal(s.Fams, two.Fams) {
			t.Fatalf("changed: %+v", in)
		}
		scribbleAll(in)
		if !bytes.Equal(b, wantBytes(c)) {
			t.Fatal("Encode answers memory that was handed in")
		}
		handed := roomy(b)
		spare := bytes.Clone(handed[:cap(handed)])
		back, err := order.Decode(s, handed)
		if err != api.OK || !bytes.Equal(handed[:cap(handed)], spare) {
			t.Fatalf("Decode: %d, or it changed what it was handed", err)
		}
		scribble(handed)
		if !same(back, c) {
			t.Fatal("Decode answers memory that was handed in")
		}
	}
}

// 14.11: no two byte strings of a command that Decode answers share any memory, their spare room neither.
func TestCommandsAnswered(t *testing.T) {
	r := rand.New(rand.NewSource(14110))
	for range 1000 {
		c := drawCommand(r, two)
		b := encode(t, two, c)
		got, err := order.Decode(two, b)
		mustErr(t, "Decode", err, api.OK)
		l := listsOf(&got)
		for i := range l {
			scribble(*l[i])
			for j, want := range listsOf(&c) {
				if j > i && !bytes.Equal(*l[j], *want) {
					t.Fatalf("the byte strings %d and %d of %+v share memory", i, j, c)
				}
			}
		}
		again, _ := order.Decode(two, b)
		scribble(b)
		if !same(again, c) {
			t.Fatal("what was answered is kept")
		}
		x, y := encode(t, two, c), encode(t, two, c)
		scribble(x)
		if !bytes.Equal(y, wantBytes(c)) {
			t.Fatal("two answers of Encode share memory")
		}
	}
}

func replyLists(r *api.Reply) []*[]byte {
	out := []*[]byte{&r.Page.Token}
	for i := range r.Page.Rows {
		out = append(out, &r.Page.Rows[i].Row)
		for j := range r.Page.Rows[i].Cells {
			out = append(out, &r.Page.Rows[i].Cells[j].Qual, &r.Page.Rows[i].Cells[j].Value)
		}
	}
	return out
}

// deepReply is a reply with memory of its own, and something in the spare room of each list.
func deepReply(r api.Reply) api.Reply {
	r.Page.Rows = append(slices.Clone(r.Page.Rows), api.Row{Row: []byte("spare")})
	for i, row := range r.Page.Rows {
		r.Page.Rows[i].Cells = append(slices.Clone(row.Cells), api.Cell{Ts: -7})
	}
	for _, b := range replyLists(&r) {
		*b = roomy(*b)
	}
	for i, row := range r.Page.Rows {
		r.Page.Rows[i].Cells = row.Cells[:len(row.Cells)-1]
	}
	r.Page.Rows = r.Page.Rows[:len(r.Page.Rows)-1]
	return r
}

func wholeReply(r api.Reply) api.Reply {
	r.Page.Rows = slices.Clone(r.Page.Rows[:cap(r.Page.Rows)])
	for i, row := range r.Page.Rows {
		r.Page.Rows[i].Cells = slices.Clone(row.Cells[:cap(row.Cells)])
	}
	for _, b := range replyLists(&r) {
		*b = bytes.Clone((*b)[:cap(*b)])
	}
	return r
}

// 14.11: replies that are handed in are neither changed nor kept; those that are answered are new memory.
func TestRepliesHandedInAndAnswered(t *testing.T) {
	r := rand.New(rand.NewSource(14111))
	for range 2000 {
		x := drawReply(r)
		in := deepReply(x)
		was := wholeReply(in)
		b := encodeReply(t, in)
		if !same(wholeReply(in), was) {
			t.Fatalf("changed: %+v", in)
		}
		for _, l := range replyLists(&in) {
			scribble(*l)
		}
		if !bytes.Equal(b, wantReplyBytes(x)) {
			t.Fatal("EncodeReply answers memory that was handed in")
		}
		handed := roomy(b)
		spare := bytes.Clone(handed[:cap(handed)])
		back, err := order.DecodeReply(handed)
		if err != api.OK || !bytes.Equal(handed[:cap(handed)], spare) {
			t.Fatalf("DecodeReply: %d, or it changed what it was handed", err)
		}
		scribble(handed)
		if !same(back, x) {
			t.Fatal("DecodeReply answers memory that was handed in")
		}
		mustShareNothing(t, back, x)
	}
}

// mustShareNothing writes over one list of a reply after the other, its spare room too, and looks at the others.
func mustShareNothing(t *testing.T, got, want api.Reply) {
	t.Helper()
	l := replyLists(&got)
	for i := range l {
		scribble(*l[i])
		for j, w := range replyLists(&want) {
			if j > i && !bytes.Equal(*l[j], *w) {
				t.Fatalf("the byte strings %d and %d of %+v share memory", i, j, want)
			}
		}
	}
	for i, row := range got.Page.Rows {
		clear(row.Cells[:cap(row.Cells)])
		for j := i + 1; j < len(got.Page.Rows); j++ {
			if slices.ContainsFunc(got.Page.Rows[j].Cells, func(c api.Cell) bool { return c.Ts == 0 }) {
				t.Fatalf("the cells of the rows %d and %d of %+v share memory", i, j, want)
			}
		}
	}
}

// 14.11: whatever values come, every call ends, and none panics; beside an error there is nothing.
func TestWhateverValuesCome(t *testing.T) {
	r := rand.New(rand.NewSource(14112))
	schemas := []api.Schema{one, two, eight, {}, {Fams: make([]api.Family, 2)}}
	for range 30000 {
		s := schemas[r.Intn(len(schemas))]
		c := drawCommand(r, two)
		for range r.Intn(9) {
			spoil(r, &c)
		}
		c.Query.Fams = append(c.Query.Fams, wilds[r.Intn(len(wilds))])
		order.Check(s, c)
		order.Same(c, drawCommand(r, two))
		if b, err := order.Encode(s, c); err != api.OK && b != nil {
			t.Fatalf("%x beside %d", b, err)
		}
		x := drawReply(r)
		spoilReply(r, &x)
		if b, err := order.EncodeReply(x); err != api.OK && b != nil {
			t.Fatalf("%x beside %d", b, err)
		}
	}
}

// 14.11: whatever bytes come.
func TestWhateverBytesCome(t *testing.T) {
	r := rand.New(rand.NewSource(14113))
	for range 200000 {
		b := make([]byte, r.Intn(40))
		r.Read(b)
		for i := range b {
			if r.Intn(2) == 0 {
				b[i] = byte(r.Intn(8))
			}
		}
		if c, err := order.Decode(two, b); err != api.OK && !same(c, api.Command{}) {
			t.Fatalf("%x: %+v beside %d", b, c, err)
		}
		if x, err := order.DecodeReply(b); err != api.OK && !same(x, api.Reply{}) {
			t.Fatalf("%x: %+v beside %d", b, x, err)
		}
	}
}

// 14.11: nothing is kept from call to call, and calls side by side have nothing in common.
func TestSideBySide(t *testing.T) {
	r := rand.New(rand.NewSource(14114))
	c, x := drawCommand(r, two), drawReply(r)
	b, y := encode(t, two, c), encodeReply(t, x)
	var wait sync.WaitGroup
	for range 8 {
		wait.Go(func() {
			for range 100 {
				order.Decode(one, b[:len(b)-1])
				order.DecodeReply(y[:len(y)-1])
				if got, err := order.Decode(two, b); err != api.OK || !order.Same(got, c) {
					t.Errorf("%+v, %d", got, err)
				}
				if got, err := order.Encode(two, c); err != api.OK || !bytes.Equal(got, b) {
					t.Errorf("%x, %d", got, err)
				}
				if got, err := order.DecodeReply(y); err != api.OK || !same(got, x) {
					t.Errorf("%+v, %d", got, err)
				}
			}
		})
	}
	wait.Wait()
}
