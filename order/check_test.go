package order_test

import (
	"math"
	"math/rand"
	"slices"
	"testing"

	"strata/api"
	"strata/order"
)

// of is a command of a kind that may be, changed.
func of(kind int, change ...func(*api.Command)) api.Command {
	c := api.Command{Kind: kind}
	switch kind {
	case api.MClose:
		c.Client, c.Serial = 1, 1
	case api.MMutate:
		c.Row, c.Ops = []byte("r"), []api.Op{{Kind: api.OPut}}
	case api.MTick:
		c.N = 1
	case api.MRead:
		c.Query = api.Query{N: 1, Rows: 1}
	}
	for _, f := range change {
		f(&c)
	}
	return c
}

func sender(client, serial int) func(*api.Command) {
	return func(c *api.Command) { c.Client, c.Serial = client, serial }
}

func row(n int) func(*api.Command)           { return func(c *api.Command) { c.Row = text(n) } }
func conds(l ...api.Cond) func(*api.Command) { return func(c *api.Command) { c.Conds = l } }
func ops(l ...api.Op) func(*api.Command)     { return func(c *api.Command) { c.Ops = l } }
func amount(n int) func(*api.Command)        { return func(c *api.Command) { c.N = n } }
func asks(q api.Query) func(*api.Command)    { return func(c *api.Command) { c.Query = q } }
func withCond(x api.Cond) api.Command        { return of(api.MMutate, conds(x)) }
func withOp(o api.Op) api.Command            { return of(api.MMutate, ops(o)) }
func repeat[T any](x T, n int) []T           { return slices.Repeat([]T{x}, n) }

type checked struct {
	c    api.Command
	want api.Errno
}

func mustCheck(t *testing.T, s api.Schema, list []checked) {
	t.Helper()
	for i, x := range list {
		if got := order.Check(s, x.c); got != x.want {
			t.Errorf("line %d: Check: %d, want %d (%+v)", i, got, x.want, x.c)
		}
		if b, err := order.Encode(s, x.c); err != x.want || (b == nil) != (err != api.OK) {
			t.Errorf("line %d: Encode: %x, %d, want %d (%+v)", i, b, err, x.want, x.c)
		}
	}
}

// 14.2: the chapter's examples.
func TestCheckExamples(t *testing.T) {
	r := []byte("r")
	mutate := func(f ...func(*api.Command)) api.Command { return of(api.MMutate, f...) }
	mustCheck(t, one, []checked{
		{api.Command{Kind: 8, Client: -1}, api.ErrCommandKind}, {api.Command{Kind: api.MNoop, Client: 1}, api.ErrClient}, {api.Command{Kind: api.MClose}, api.ErrClient},
		{api.Command{Kind: api.MTick, Client: 1}, api.ErrNoSerial}, {api.Command{Kind: api.MTick, Serial: 1}, api.ErrNoSerial},
		{api.Command{Kind: api.MMutate}, api.ErrRow}, {api.Command{Kind: api.MMutate, Row: r}, api.ErrOps}, {api.Command{Kind: api.MTick, Row: r}, api.ErrRow},
		{api.Command{Kind: api.MMutate, Row: r, Conds: []api.Cond{{Kind: api.CThere, Value: []byte("v")}}}, api.ErrCond},
		{mutate(ops(api.Op{Kind: api.OPut, Fam: 1})), api.ErrOp}, {mutate(ops(api.Op{Kind: api.OAdd, Ts: 1})), api.ErrOp}, {mutate(ops(api.Op{Kind: api.OCol, Delta: 1})), api.ErrOp},
		{api.Command{Kind: api.MTick}, api.ErrAmount}, {api.Command{Kind: api.MNoop, N: 1}, api.ErrAmount}, {api.Command{Kind: api.MAdvance, N: -1}, api.ErrAmount},
		{api.Command{Kind: api.MNoop, Query: api.Query{N: 1}}, api.ErrQuery},
	})
}

// 14.1, 14.2: kinds there are, and there are not.
func TestCheckKinds(t *testing.T) {
	for kind := api.MNoop; kind <= api.MRead; kind++ {
		mustErr(t, "a kind", order.Check(one, of(kind)), api.OK)
	}
	for _, kind := range []int{0, -1, 8, 9, 255, 256, 257, math.MaxInt, math.MinInt} {
		mustErr(t, "no kind", order.Check(one, api.Command{Kind: kind}), api.ErrCommandKind)
		mustErr(t, "no kind, and nothing else right", order.Check(one, api.Command{Kind: kind, Client: -1, Serial: -1, Row: text(300), N: -1}), api.ErrCommandKind)
	}
	for _, s := range []api.Schema{{}, {Fams: []api.Family{{Name: "f"}}}, {Fams: make([]api.Family, 9)}} {
		for kind := 0; kind <= 8; kind++ {
			mustErr(t, "no schema", order.Check(s, of(kind)), api.ErrSchema)
		}
	}
}

// 14.1, 14.2: client and serial, of each kind, at their bounds.
func TestCheckSenders(t *testing.T) {
	most := 1 << 40
	for _, kind := range []int{api.MNoop, api.MOpen} {
		mustCheck(t, one, []checked{
			{of(kind), api.OK}, {of(kind, sender(1, 0)), api.ErrClient}, {of(kind, sender(1, 1)), api.ErrClient}, {of(kind, sender(-1, 0)), api.ErrClient}, {of(kind, sender(most, most)), api.ErrClient},
			{of(kind, sender(0, 1)), api.ErrNoSerial}, {of(kind, sender(0, -1)), api.ErrNoSerial},
		})
	}
	for _, kind := range []int{api.MClose, api.MMutate, api.MTick, api.MAdvance, api.MRead} {
		none, bare := api.OK, api.ErrNoSerial
		if kind == api.MClose {
			none, bare = api.ErrClient, api.ErrClient
		}
		mustCheck(t, one, []checked{
			{of(kind, sender(0, 0)), none}, {of(kind, sender(0, 1)), bare}, {of(kind, sender(0, most)), bare}, {of(kind, sender(0, -1)), bare},
			{of(kind, sender(1, 1)), api.OK}, {of(kind, sender(most, 1)), api.OK}, {of(kind, sender(1, most)), api.OK}, {of(kind, sender(most, most)), api.OK},
			{of(kind, sender(most+1, 1)), api.ErrClient}, {of(kind, sender(most+1, 0)), api.ErrClient}, {of(kind, sender(-1, 1)), api.ErrClient}, {of(kind, sender(math.MinInt, 1)), api.ErrClient}, {of(kind, sender(math.MaxInt, -1)), api.ErrClient},
			{of(kind, sender(1, 0)), api.ErrNoSerial}, {of(kind, sender(1, most+1)), api.ErrNoSerial}, {of(kind, sender(1, -1)), api.ErrNoSerial}, {of(kind, sender(1, math.MinInt)), api.ErrNoSerial}, {of(kind, sender(1, math.MaxInt)), api.ErrNoSerial},
		})
	}
}

// 14.1, 14.2: which kinds have which fields beside; each field at its bounds.
func TestCheckFields(t *testing.T) {
	most := 1 << 40
	op, cond := api.Op{Kind: api.OPut}, api.Cond{Kind: api.CThere}
	for kind := api.MNoop; kind <= api.MRead; kind++ {
		if kind != api.MMutate {
			mustCheck(t, one, []checked{
				{of(kind, row(0)), api.OK}, {of(kind, row(1)), api.ErrRow}, {of(kind, row(300)), api.ErrRow},
				{of(kind, conds()), api.OK}, {of(kind, conds(cond)), api.ErrCond}, {of(kind, conds(repeat(cond, 9)...)), api.ErrCond},
				{of(kind, ops()), api.OK}, {of(kind, ops(op)), api.ErrOps}, {of(kind, ops(api.Op{})), api.ErrOps},
			})
		}
		if kind != api.MTick && kind != api.MAdvance {
			mustCheck(t, one, []checked{{of(kind, amount(0)), api.OK}, {of(kind, amount(1)), api.ErrAmount}, {of(kind, amount(-1)), api.ErrAmount}, {of(kind, amount(most)), api.ErrAmount}})
		}
		if kind != api.MRead {
			for _, q := range []api.Query{{From: text(1)}, {To: text(1)}, {Fams: []int{0}}, {Prefix: text(1)}, {Time: 1}, {Time: -1}, {N: 1}, {N: -1}, {Rows: 1}, {Reverse: true}, {Where: " "}, {Token: text(1)}, {N: 1, Rows: 1}} {
				mustErr(t, "a query", order.Check(one, of(kind, asks(q))), api.ErrQuery)
			}
			empty := api.Query{From: []byte{}, To: []byte{}, Fams: []int{}, Prefix: []byte{}, Token: []byte{}}
			mustErr(t, "an empty query", order.Check(one, of(kind, asks(empty))), api.OK)
		}
	}
	mustCheck(t, one, []checked{
		{of(api.MMutate, row(0)), api.ErrRow}, {of(api.MMutate, row(1)), api.OK}, {of(api.MMutate, row(256)), api.OK}, {of(api.MMutate, row(257)), api.ErrRow},
		{of(api.MMutate, conds(repeat(cond, 8)...)), api.OK}, {of(api.MMutate, conds(repeat(cond, 9)...)), api.ErrCond},
		{of(api.MMutate, ops()), api.ErrOps}, {of(api.MMutate, ops(repeat(op, 16)...)), api.OK}, {of(api.MMutate, ops(repeat(op, 17)...)), api.ErrOps},
		{of(api.MTick, amount(0)), api.ErrAmount}, {of(api.MTick, amount(-1)), api.ErrAmount}, {of(api.MTick, amount(most)), api.OK}, {of(api.MTick, amount(most+1)), api.ErrAmount}, {of(api.MTick, amount(math.MaxInt)), api.ErrAmount}, {of(api.MTick, amount(math.MinInt)), api.ErrAmount},
		{of(api.MAdvance, amount(0)), api.OK}, {of(api.MAdvance, amount(-1)), api.ErrAmount}, {of(api.MAdvance, amount(most)), api.OK}, {of(api.MAdvance, amount(most+1)), api.ErrAmount},
		{of(api.MRead, asks(api.Query{})), api.ErrQuery}, {of(api.MRead, asks(api.Query{N: 1, Rows: 1001})), api.ErrQuery}, {of(api.MRead, asks(api.Query{N: 1, Rows: 1, Fams: []int{1}})), api.ErrQuery}, {of(api.MRead, asks(api.Query{N: 1, Rows: 1, Where: "fam = g"})), api.ErrWhere}, {of(api.MRead, asks(api.Query{N: 1, Rows: 1, Where: "fam = f"})), api.OK}, {of(api.MRead, asks(api.Query{N: 1, Rows: 1, Token: text(1)})), api.ErrToken},
	})
}

// 14.1: conditions, by their kind.
func TestCheckConds(t *testing.T) {
	for kind := api.CThere; kind <= api.CAbove; kind++ {
		valued := api.OK
		if kind <= api.CAbsent {
			valued = api.ErrCond
		}
		mustCheck(t, two, []checked{
			{withCond(api.Cond{Kind: kind}), api.OK}, {withCond(api.Cond{Kind: kind, Fam: 1}), api.OK}, {withCond(api.Cond{Kind: kind, Fam: 2}), api.ErrCond}, {withCond(api.Cond{Kind: kind, Fam: -1}), api.ErrCond}, {withCond(api.Cond{Kind: kind, Fam: 256}), api.ErrCond}, {withCond(api.Cond{Kind: kind, Fam: math.MaxInt}), api.ErrCond},
			{withCond(api.Cond{Kind: kind, Qual: text(256)}), api.OK}, {withCond(api.Cond{Kind: kind, Qual: text(257)}), api.ErrCond},
			{withCond(api.Cond{Kind: kind, Value: text(1)}), valued}, {withCond(api.Cond{Kind: kind, Value: text(4096)}), valued}, {withCond(api.Cond{Kind: kind, Value: text(4097)}), api.ErrCond}, {withCond(api.Cond{Kind: kind, Value: []byte{}}), api.OK},
			// each one counts
			{of(api.MMutate, conds(api.Cond{Kind: kind}, api.Cond{})), api.ErrCond}, {of(api.MMutate, conds(api.Cond{}, api.Cond{Kind: kind})), api.ErrCond},
		})
	}
	for _, kind := range []int{0, -1, 7, 257, math.MinInt, math.MaxInt} {
		mustErr(t, "no kind of a condition", order.Check(one, withCond(api.Cond{Kind: kind})), api.ErrCond)
	}
	mustErr(t, "the last of eight families", order.Check(eight, withCond(api.Cond{Kind: api.CSame, Fam: 7})), api.OK)
	mustErr(t, "behind it", order.Check(eight, withCond(api.Cond{Kind: api.CSame, Fam: 8})), api.ErrCond)
}

// 14.1: ops, by their kind.
func TestCheckOps(t *testing.T) {
	most := 1 << 40
	okIf := func(is bool) api.Errno {
		if is {
			return api.OK
		}
		return api.ErrOp
	}
	for kind := api.OPut; kind <= api.OAdd; kind++ {
		quals, times, values, deltas := okIf(kind != api.OFam), okIf(kind != api.OAdd), okIf(kind == api.OPut), okIf(kind == api.OAdd)
		mustCheck(t, two, []checked{
			{withOp(api.Op{Kind: kind}), api.OK}, {withOp(api.Op{Kind: kind, Fam: 1}), api.OK}, {withOp(api.Op{Kind: kind, Fam: 2}), api.ErrOp}, {withOp(api.Op{Kind: kind, Fam: -1}), api.ErrOp}, {withOp(api.Op{Kind: kind, Fam: 256}), api.ErrOp}, {withOp(api.Op{Kind: kind, Fam: math.MinInt}), api.ErrOp},
			{withOp(api.Op{Kind: kind, Qual: text(1)}), quals}, {withOp(api.Op{Kind: kind, Qual: text(256)}), quals}, {withOp(api.Op{Kind: kind, Qual: text(257)}), api.ErrOp}, {withOp(api.Op{Kind: kind, Qual: []byte{}, Value: []byte{}}), api.OK},
			{withOp(api.Op{Kind: kind, Ts: 1}), times}, {withOp(api.Op{Kind: kind, Ts: most}), times}, {withOp(api.Op{Kind: kind, Ts: most + 1}), api.ErrOp}, {withOp(api.Op{Kind: kind, Ts: -1}), api.ErrOp}, {withOp(api.Op{Kind: kind, Ts: math.MinInt}), api.ErrOp},
			{withOp(api.Op{Kind: kind, Value: text(1)}), values}, {withOp(api.Op{Kind: kind, Value: text(4096)}), values}, {withOp(api.Op{Kind: kind, Value: text(4097)}), api.ErrOp},
			{withOp(api.Op{Kind: kind, Delta: 1}), deltas}, {withOp(api.Op{Kind: kind, Delta: -1}), deltas}, {withOp(api.Op{Kind: kind, Delta: math.MaxInt}), deltas}, {withOp(api.Op{Kind: kind, Delta: math.MinInt}), deltas},
			// each one counts
			{of(api.MMutate, ops(api.Op{Kind: kind}, api.Op{})), api.ErrOp}, {of(api.MMutate, ops(api.Op{}, api.Op{Kind: kind})), api.ErrOp},
		})
	}
	for _, kind := range []int{0, -1, 6, 257, math.MinInt, math.MaxInt} {
		mustErr(t, "no kind of an op", order.Check(one, withOp(api.Op{Kind: kind})), api.ErrOp)
	}
	mustErr(t, "the last of eight families", order.Check(eight, withOp(api.Op{Kind: api.OFam, Fam: 7})), api.OK)
	mustErr(t, "behind it", order.Check(eight, withOp(api.Op{Kind: api.OFam, Fam: 8})), api.ErrOp)
}

// 14.2: of several faults the first is told.
func TestCheckOrder(t *testing.T) {
	faults := []struct {
		err  api.Errno
		make func(*api.Command)
	}{
		{api.ErrCommandKind, func(c *api.Command) { c.Kind = 8 }},
		{api.ErrClient, sender(-1, 0)},
		{api.ErrNoSerial, func(c *api.Command) { c.Serial = -1 }},
		{api.ErrRow, row(257)},
		{api.ErrCond, conds(api.Cond{})},
		{api.ErrOps, ops(make([]api.Op, 17)...)},
		{api.ErrOp, func(c *api.Command) { c.Ops = append([]api.Op{{}}, c.Ops[:min(len(c.Ops), 15)]...) }},
		{api.ErrAmount, amount(-1)},
		{api.ErrQuery, asks(api.Query{N: -1})},
	}
	for i, first := range faults {
		for _, second := range faults[i+1:] {
			if first.err == api.ErrOps && second.err == api.ErrOp {
				continue // both are of one list
			}
			mustErr(t, "two faults", order.Check(one, of(api.MMutate, second.make, first.make)), first.err)
		}
		mustErr(t, "one fault", order.Check(one, of(api.MMutate, first.make)), first.err)
		mustErr(t, "a fault beside no schema", order.Check(api.Schema{}, of(api.MMutate, first.make)), api.ErrSchema)
	}
	long := of(api.MMutate, ops(repeat(api.Op{Kind: api.OPut, Value: text(4096)}, 16)...), conds(repeat(api.Cond{Kind: api.CSame, Value: text(4096)}, 8)...))
	mustErr(t, "too long", order.Check(one, long), api.ErrLong)
	for _, change := range []func(*api.Command){amount(1), asks(api.Query{N: 1}), row(0), sender(0, 1)} {
		c := long
		change(&c)
		if err := order.Check(one, c); err == api.ErrLong || err == api.OK {
			t.Errorf("too long and another fault: %d", err)
		}
	}
	mustErr(t, "too many ops, and one of them is none", order.Check(one, of(api.MMutate, ops(make([]api.Op, 17)...))), api.ErrOps)
	mustErr(t, "a read with an amount and no question", order.Check(one, of(api.MRead, amount(1), asks(api.Query{}))), api.ErrAmount)
}

// sized is a mutation of so many bytes, some under 100000.
func sized(t *testing.T, n int) api.Command {
	t.Helper()
	c := of(api.MMutate, row(256), sender(1<<40, 1<<40), ops(repeat(api.Op{Kind: api.OPut, Qual: text(256), Ts: 1 << 40, Value: text(4096)}, 16)...), conds(repeat(api.Cond{Kind: api.CSame, Value: text(4096)}, 7)...))
	c.Conds[6].Value = text(4096 - (len(wantBytes(c)) - n))
	if len(wantBytes(c)) != n {
		t.Fatalf("%d bytes, not %d", len(wantBytes(c)), n)
	}
	return c
}

// 14.2, 14.4: at most MaxCommand bytes.
func TestCheckLength(t *testing.T) {
	mustCheck(t, one, []checked{{sized(t, 98303), api.OK}, {sized(t, 98304), api.OK}, {sized(t, 98305), api.ErrLong}, {sized(t, 98306), api.ErrLong}})
	for _, n := range []int{98303, 98304} {
		c := sized(t, n)
		b := encode(t, one, c)
		back, err := order.Decode(one, b)
		if len(b) != n || err != api.OK || !same(back, c) {
			t.Errorf("%d bytes, not %d; Decode: %d", len(b), n, err)
		}
	}
	for n, want := range map[int]api.Errno{98305: api.ErrLong, 98306: api.ErrLong, 98304: api.ErrCommand} {
		for _, b := range [][]byte{make([]byte, n), append([]byte{1}, make([]byte, n-1)...)} {
			c, err := order.Decode(one, b)
			if err != want || !same(c, api.Command{}) {
				t.Errorf("Decode of %d bytes: %d, want %d", n, err, want)
			}
			_, err = order.Decode(api.Schema{}, b)
			mustErr(t, "Decode without a schema", err, api.ErrSchema)
		}
	}
	_, err := order.Decode(one, wantBytes(sized(t, 98305)))
	mustErr(t, "Decode of what is a command but for its length", err, api.ErrLong)
}

var wilds = []int{math.MinInt, -1, 0, 1, 2, 3, 4, 5, 6, 7, 8, 255, 256, 257, 1 << 40, 1<<40 + 1, math.MaxInt}

// spoil changes one thing of a command; it may still be one.
func spoil(r *rand.Rand, c *api.Command) {
	wild := wilds[r.Intn(len(wilds))]
	long := text([]int{0, 1, 256, 257, 4096, 4097}[r.Intn(6)])
	c.Conds = append([]api.Cond{}, c.Conds...)
	c.Ops = append([]api.Op{}, c.Ops...)
	var cond api.Cond
	var op api.Op
	x, o := &cond, &op
	if len(c.Conds) > 0 {
		x = &c.Conds[r.Intn(len(c.Conds))]
	}
	if len(c.Ops) > 0 {
		o = &c.Ops[r.Intn(len(c.Ops))]
	}
	numbers := []*int{&c.Kind, &c.Client, &c.Serial, &c.N, &x.Kind, &x.Fam, &o.Kind, &o.Fam, &o.Ts, &o.Delta, &c.Query.Time, &c.Query.N, &c.Query.Rows}
	lists := []*[]byte{&c.Row, &x.Qual, &x.Value, &o.Qual, &o.Value, &c.Query.From, &c.Query.To, &c.Query.Prefix, &c.Query.Token}
	switch r.Intn(8) {
	case 0, 1, 2:
		*numbers[r.Intn(len(numbers))] = wild
	case 3, 4:
		*lists[r.Intn(len(lists))] = long
	case 5:
		c.Conds = append(c.Conds, repeat(drawCond(r, two), r.Intn(10))...)
	case 6:
		c.Ops = append(c.Ops, repeat(drawOp(r, two), r.Intn(17))...)
	case 7:
		c.Query.Reverse, c.Query.Where = !c.Query.Reverse, []string{"", " ", "fam = b"}[r.Intn(3)]
	}
}

// 14.1, 14.2, 14.3: drawn commands, whole and spoilt, are taken, refused and written as the chapter's words say, told a second time.
func TestCheckDrawn(t *testing.T) {
	r := rand.New(rand.NewSource(142))
	met := map[api.Errno]int{}
	for range 40000 {
		s := []api.Schema{one, two, eight}[r.Intn(3)]
		c := drawCommand(r, s)
		for range r.Intn(4) {
			spoil(r, &c)
		}
		want := wantCheck(s, c)
		met[want]++
		if got := order.Check(s, c); got != want {
			t.Fatalf("%d, want %d: %+v", got, want, c)
		}
		b, err := order.Encode(s, c)
		if err != want || err == api.OK && string(b) != string(wantBytes(c)) || err != api.OK && b != nil {
			t.Fatalf("%x, %d, want %d: %+v", b, err, want, c)
		}
	}
	for _, e := range []api.Errno{api.OK, api.ErrCommandKind, api.ErrClient, api.ErrNoSerial, api.ErrRow, api.ErrCond, api.ErrOps, api.ErrOp, api.ErrAmount, api.ErrQuery, api.ErrWhere, api.ErrToken} {
		if met[e] < 20 {
			t.Errorf("%d was met %d times", e, met[e])
		}
	}
}
