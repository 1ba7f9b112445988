package order_test

import (
	"math/rand"
	"testing"

	"strata/api"
	"strata/order"
)

// full is a command in which no field is zero, which none may be.
func full() api.Command {
	x := func() []byte { return []byte("xy") }
	return api.Command{
		Kind: 4, Client: 5, Serial: 6, Row: x(), N: 7,
		Conds: []api.Cond{{Kind: 1, Fam: 2, Qual: x(), Value: x()}, {Kind: 3, Fam: 4, Qual: x(), Value: x()}},
		Ops:   []api.Op{{Kind: 1, Fam: 2, Qual: x(), Ts: 3, Value: x(), Delta: 4}, {Kind: 5, Fam: 6, Qual: x(), Ts: 7, Value: x(), Delta: 8}},
		Query: api.Query{From: x(), To: x(), Fams: []int{1, 2}, Prefix: x(), Time: 3, N: 4, Rows: 5, Reverse: true, Where: "xy", Token: x()},
	}
}

// numbersOf and listsOf are the places of all numbers and byte strings of a command.
func numbersOf(c *api.Command) []*int {
	out := []*int{&c.Kind, &c.Client, &c.Serial, &c.N, &c.Query.Time, &c.Query.N, &c.Query.Rows}
	for i := range c.Query.Fams {
		out = append(out, &c.Query.Fams[i])
	}
	for i := range c.Conds {
		out = append(out, &c.Conds[i].Kind, &c.Conds[i].Fam)
	}
	for i := range c.Ops {
		out = append(out, &c.Ops[i].Kind, &c.Ops[i].Fam, &c.Ops[i].Ts, &c.Ops[i].Delta)
	}
	return out
}

func listsOf(c *api.Command) []*[]byte {
	out := []*[]byte{&c.Row, &c.Query.From, &c.Query.To, &c.Query.Prefix, &c.Query.Token}
	for i := range c.Conds {
		out = append(out, &c.Conds[i].Qual, &c.Conds[i].Value)
	}
	for i := range c.Ops {
		out = append(out, &c.Ops[i].Qual, &c.Ops[i].Value)
	}
	return out
}

func mustBeUnlike(t *testing.T, what string, a, b api.Command) {
	t.Helper()
	if order.Same(a, b) || order.Same(b, a) {
		t.Errorf("%s: %+v and %+v are the same", what, a, b)
	}
}

// 14.8: each field counts, whether the command may be or not.
func TestSameByFields(t *testing.T) {
	if !order.Same(full(), full()) || !order.Same(api.Command{}, api.Command{}) {
		t.Error("a command is not the same as itself")
	}
	b := full()
	for i := range numbersOf(&b) {
		for _, wild := range []int{0, -1, 1 << 40, 77} {
			c := full()
			*numbersOf(&c)[i] = wild
			mustBeUnlike(t, "a number", full(), c)
		}
	}
	for i := range listsOf(&b) {
		for _, other := range []string{"", "x", "xz", "zy", "xyz", "xy\x00"} {
			c := full()
			*listsOf(&c)[i] = []byte(other)
			mustBeUnlike(t, "a byte string", full(), c)
		}
	}
	for i, change := range []func(*api.Command){
		func(c *api.Command) { c.Conds = c.Conds[:1] }, func(c *api.Command) { c.Conds = nil }, func(c *api.Command) { c.Conds = append(c.Conds, api.Cond{}) }, func(c *api.Command) { c.Conds[0], c.Conds[1] = c.Conds[1], c.Conds[0] },
		func(c *api.Command) { c.Ops = c.Ops[:1] }, func(c *api.Command) { c.Ops = nil }, func(c *api.Command) { c.Ops = append(c.Ops, api.Op{}) }, func(c *api.Command) { c.Ops[0], c.Ops[1] = c.Ops[1], c.Ops[0] },
		func(c *api.Command) { c.Query.Fams = c.Query.Fams[:1] }, func(c *api.Command) { c.Query.Fams = nil }, func(c *api.Command) { c.Query.Fams = append(c.Query.Fams, 0) }, func(c *api.Command) { c.Query.Fams = []int{2, 1} },
		func(c *api.Command) { c.Query.Reverse = false }, func(c *api.Command) { c.Query.Where = "" }, func(c *api.Command) { c.Query.Where = "xz" }, func(c *api.Command) { c.Query = api.Query{} },
	} {
		c := full()
		change(&c)
		if order.Same(full(), c) || order.Same(c, full()) {
			t.Errorf("change %d is not told", i)
		}
	}
}

// 14.8: nil and empty are the same.
func TestSameNilAndEmpty(t *testing.T) {
	empty := api.Command{Row: []byte{}, Conds: []api.Cond{}, Ops: []api.Op{}, Query: api.Query{From: []byte{}, To: []byte{}, Fams: []int{}, Prefix: []byte{}, Token: []byte{}}}
	if !order.Same(empty, api.Command{}) || !order.Same(api.Command{}, empty) {
		t.Error("an empty command is not the zero one")
	}
	a, b := full(), full()
	for i := range listsOf(&a) {
		*listsOf(&a)[i], *listsOf(&b)[i] = nil, []byte{}
	}
	if !order.Same(a, b) || !order.Same(b, a) {
		t.Errorf("%+v and %+v are not the same", a, b)
	}
}

// 14.8: of drawn commands, spoilt or not.
func TestSameDrawn(t *testing.T) {
	r := rand.New(rand.NewSource(148))
	like := 0
	for range 20000 {
		a := drawCommand(r, two)
		b := a
		spoil(r, &b)
		want := same(a, b)
		if want {
			like++
		}
		if order.Same(a, b) != want || order.Same(b, a) != want || !order.Same(b, b) {
			t.Fatalf("%+v, %+v: not %v", a, b, want)
		}
	}
	if like < 1000 || like > 19000 {
		t.Errorf("%d were the same", like)
	}
}
