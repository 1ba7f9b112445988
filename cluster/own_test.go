package cluster_test

import (
	"bytes"
	"fmt"
	"math"
	"math/rand"
	"reflect"
	"slices"
	"testing"
	"unsafe"

	"strata/api"
	"strata/cluster"
)

// roomy is bytes with spare room behind them that can be looked at.
func roomy(b []byte) []byte {
	whole := slices.Concat(b, bytes.Repeat([]byte{0xc3}, 64))
	return whole[:len(b):len(whole)]
}

// borrowed is a text over bytes that may yet change.
func borrowed(b []byte) string { return unsafe.String(unsafe.SliceData(b), len(b)) }

// span is the memory of one list, spare room too.
type span struct{ from, to uintptr }

// spans are those of all lists in a value.
func spans(v reflect.Value, out []span) []span {
	switch v.Kind() {
	case reflect.Struct:
		for i := range v.NumField() {
			out = spans(v.Field(i), out)
		}
	case reflect.Slice:
		if v.Cap() > 0 {
			out = append(out, span{v.Pointer(), v.Pointer() + uintptr(v.Cap())*v.Type().Elem().Size()})
		}
		for i := range v.Len() {
			out = spans(v.Index(i), out)
		}
	}
	return out
}

// scribble writes over all lists in a value, spare room too.
func scribble(v reflect.Value) {
	switch v.Kind() {
	case reflect.Struct:
		for i := range v.NumField() {
			scribble(v.Field(i))
		}
	case reflect.Slice:
		v = v.Slice(0, v.Cap())
		for i := range v.Len() {
			if e := v.Index(i); e.Kind() == reflect.Uint8 {
				e.SetUint(255 - e.Uint())
			} else {
				scribble(e)
				e.SetZero()
			}
		}
	}
}

// isOwn fails where two lists of one answer share memory, and writes over all of it.
func isOwn(t *testing.T, what string, answer any) {
	t.Helper()
	l := spans(reflect.ValueOf(answer), nil)
	slices.SortFunc(l, func(a, b span) int { return int(a.from) - int(b.from) })
	for i := range l {
		if i > 0 && l[i].from < l[i-1].to {
			t.Fatalf("%s: two lists share memory", what)
		}
	}
	scribble(reflect.ValueOf(answer))
}

// 19.12: a configuration is neither changed nor kept.
func TestTheConfigurationIsNotKept(t *testing.T) {
	name := []byte("f")
	c := config(3)
	c.Schema.Fams = []api.Family{{Name: borrowed(name), Max: 2}, {Name: "g", Max: 3, TTL: 30}, {Name: "spare"}}[:2]
	c.Splits = [][]byte{roomy([]byte("d")), roomy([]byte("m")), []byte("spare")}[:2]
	c.Replica.Raft.Peers = []int{9, 8, 7, 6}[:2]
	before := fmt.Sprint(c.Schema.Fams[:3], c.Splits[:3], c.Splits[0][:65], c.Splits[1][:65], c.Replica.Raft.Peers[:4])
	mustErr(t, "Check", cluster.Check(c), api.OK)
	x, twin := begin(t, c), begin(t, config(3, "d", "m"))
	if got := fmt.Sprint(c.Schema.Fams[:3], c.Splits[:3], c.Splits[0][:65], c.Splits[1][:65], c.Replica.Raft.Peers[:4]); got != before {
		t.Errorf("got %s, want %s", got, before)
	}
	name[0] = 'x'
	scribble(reflect.ValueOf(&c).Elem())
	for _, y := range []*cluster.Cluster{x, twin} {
		lead(t, y, 0, 3)
		propose(t, y, 0, put("a", "v"), put("d", "v"), put("l", "v"), put("m", "v"))
		mustErr(t, "Crash", y.Crash(1), api.OK)
		mustErr(t, "Start", y.Start(1, 0), api.OK)
		p, err := y.Scan(nil, 0, api.Query{Time: 1, N: 1, Rows: 9, Where: "fam = f"})
		if err != api.OK || rowsOf(p) != "a d l m " {
			t.Errorf("%s, %d", pageText(p), err)
		}
	}
	if wholeText(x, 3, 3) != wholeText(twin, 3, 3) {
		t.Error("the configuration is kept")
	}
}

// handedIn is a command with spare room behind all its lists.
func handedIn(c api.Command) api.Command {
	c.Row = roomy(c.Row)
	ops := slices.Clone(c.Ops)
	for i, o := range ops {
		ops[i].Qual, ops[i].Value = roomy(o.Qual), roomy(o.Value)
	}
	c.Ops = append(ops, api.Op{Kind: 77})[:len(ops)]
	conds := slices.Clone(c.Conds)
	for i, o := range conds {
		conds[i].Qual, conds[i].Value = roomy(o.Qual), roomy(o.Value)
	}
	c.Conds = append(conds, api.Cond{Kind: 77})[:len(conds)]
	c.Query = handedQuery(c.Query)
	return c
}

func handedQuery(q api.Query) api.Query {
	q.From, q.To, q.Prefix, q.Token = roomy(q.From), roomy(q.To), roomy(q.Prefix), roomy(q.Token)
	q.Fams = append(slices.Clone(q.Fams), 77, 77)[:len(q.Fams)]
	return q
}

// deep is all memory of a value, spare room too, as text.
func deep(v reflect.Value) string {
	switch v.Kind() {
	case reflect.Struct:
		out := ""
		for i := range v.NumField() {
			out += deep(v.Field(i)) + ","
		}
		return out
	case reflect.Slice:
		out := fmt.Sprint("[", v.Len(), " of ")
		for i := range v.Cap() {
			out += deep(v.Slice(0, v.Cap()).Index(i)) + " "
		}
		return out + "]"
	}
	return fmt.Sprint(v)
}

// 19.12: of two clusters one is handed commands and questions with spare room, which are written over behind each call, and all that it tells is written over: they go on telling the same; what was handed in was not changed, and no answer shares memory.
func TestNothingIsKeptOrShared(t *testing.T) {
	manySeeds(t, 24, func(t *testing.T, seed int, count map[string]int) {
		s := newStory(t, seed, count)
		twin := begin(t, s.m.c)
		x := s.x
		for step := range 240 {
			node, tablet, draw, i := s.r.Intn(s.r.nodes), s.r.Intn(s.r.tablets), s.r.Intn(5), s.r.Intn(4)
			c, q := s.r.command(), s.r.query()
			if c.Kind == api.MMutate {
				tablet = x.Route(c.Row)
			}
			for _, y := range []*cluster.Cluster{x, twin} {
				mine := y == x
				switch k := (node + tablet*7 + draw*3 + i*5 + len(c.Row) + q.Rows) % 12; {
				case k < 4:
					y.Deliver(0, draw)
				case k == 4:
					y.Double(i)
				case k < 7:
					for n := range s.r.nodes {
						y.Tick(n, draw+n)
					}
				case k < 10:
					for n := range s.r.nodes {
						h := handedIn(c)
						before := deep(reflect.ValueOf(h))
						y.Propose(n, tablet, h)
						if deep(reflect.ValueOf(h)) != before {
							t.Fatalf("seed %d: Propose has changed %s", seed, before)
						}
						if mine {
							scribble(reflect.ValueOf(&h).Elem())
						}
					}
				case k == 10:
					y.Flush(node, tablet)
				default:
					y.Crash(node, i, i)
					y.Start(node, draw)
				}
				ask(t, y, node, tablet, q, mine)
			}
			if step%6 > 0 {
				continue
			}
			if got, want := wholeText(x, s.r.nodes, s.r.tablets), wholeText(twin, s.r.nodes, s.r.tablets); got != want {
				t.Fatalf("seed %d: got\n%s\nwant\n%s", seed, got, want)
			}
		}
	})
}

// ask asks for all that is told; mine: the answers are written over.
func ask(t *testing.T, x *cluster.Cluster, node, tablet int, q api.Query, mine bool) {
	t.Helper()
	own := func(what string, answer any) {
		t.Helper()
		if mine {
			isOwn(t, what, answer)
		}
	}
	own("Packets", x.Packets())
	log, _ := x.Log(node, tablet)
	own("Log", log)
	dump, _ := x.Dump(node, tablet)
	own("Dump", dump)
	l, _ := x.Files(node)
	own("Files", l)
	answers, _ := x.Answers(node, tablet)
	own("Answers", answers)
	h := handedQuery(q)
	before := deep(reflect.ValueOf(h))
	p, _ := x.Query(node, tablet, h)
	own("Query", p)
	p, _ = x.Scan(nil, node, h)
	own("Scan", p)
	if deep(reflect.ValueOf(h)) != before {
		t.Fatalf("a question has changed: %s", before)
	}
}

// 19.12: a chunk that is told is a copy, too: written over, what comes is what was sent.
func TestChunksAreNotShared(t *testing.T) {
	x := led(t, 3)
	mustErr(t, "Crash", x.Crash(2), api.OK)
	propose(t, x, 0, puts("a", 8, 'x'), puts("b", 8, 'y'))
	mustErr(t, "Flush", x.Flush(0, 0), api.OK)
	mustErr(t, "Start", x.Start(2, 0), api.OK)
	chunks := 0
	for range 3 {
		tick(t, x, 0)
		for len(x.Packets()) > 0 {
			l := x.Packets()
			if l[0].Message.Kind == api.PChunk {
				if chunks++; chunks < 3 {
					mustErr(t, "Double", x.Double(0), api.OK)
					l = x.Packets()
				}
			}
			isOwn(t, "Packets", l)
			mustErr(t, "Deliver", x.Deliver(0, 0), api.OK)
		}
	}
	want, err := x.Query(0, 0, all)
	mustErr(t, "Query", err, api.OK)
	got, err := x.Query(2, 0, all)
	if s := status(t, x, 2, 0); chunks < 4 || s.Flushed != 3 || err != api.OK || pageText(got) != pageText(want) {
		t.Errorf("%d chunks: %+v, %s, %d", chunks, s, pageText(got), err)
	}
}

// 19.12: cuts and rows are not changed.
func TestCutsAndRowsAreNotChanged(t *testing.T) {
	x := alone(t, "m")
	cuts := []int{3, 4, 5, 6}
	mustErr(t, "Crash", x.Crash(0, cuts[:2]...), api.OK)
	row := roomy([]byte("m"))
	x.Route(row)
	if !slices.Equal(cuts, []int{3, 4, 5, 6}) || !bytes.Equal(row[:cap(row)], roomy([]byte("m"))[:65]) {
		t.Error("what was handed in has changed")
	}
}

// 19.12: no call panics and each one ends, whatever numbers and values it is given.
func TestWildCalls(t *testing.T) {
	manySeeds(t, 32, func(t *testing.T, seed int, count map[string]int) {
		r := rand.New(rand.NewSource(int64(seed)))
		c := config(1+r.Intn(7), []string{"b", "d", "f", "k", "m", "o", "x"}[:r.Intn(8)]...)
		c.Disk = []int{0, 100, 1000, 1 << 20}[r.Intn(4)]
		x := begin(t, c)
		wild := func() int {
			if r.Intn(3) > 0 {
				return r.Intn(8)
			}
			return []int{-1, math.MinInt, math.MaxInt, 1 << 40, r.Int() - r.Int()}[r.Intn(5)]
		}
		text := func() []byte { return long(r.Intn(300) * r.Intn(2)) }
		for range 1500 {
			a, b := wild(), wild()
			switch r.Intn(24) {
			case 0, 1, 2:
				x.Tick(a, b)
			case 3, 4, 5, 6:
				x.Deliver(a, b)
			case 7:
				x.Drop(a)
			case 8:
				x.Double(a)
			case 9, 10:
				x.Propose(a, b, api.Command{Kind: wild(), Client: wild(), Serial: wild(), Row: text(), N: wild(), Ops: []api.Op{{Kind: wild(), Fam: wild(), Ts: wild(), Value: text(), Delta: wild()}}})
			case 11:
				x.Propose(a, b, put("m", "v"))
			case 12:
				x.HandOver(a, b, wild())
			case 13:
				x.Answers(a, b)
			case 14:
				x.Query(a, b, api.Query{From: text(), To: text(), Time: wild(), N: wild(), Rows: wild(), Fams: []int{wild()}, Token: text()})
			case 15:
				x.Scan(nil, a, api.Query{From: text(), To: text(), Time: wild(), N: wild(), Rows: wild(), Reverse: r.Intn(2) == 0})
			case 16:
				x.Flush(a, b)
			case 17:
				x.Compact(a, b, r.Intn(2) == 0, wild())
			case 18:
				x.Arm(a, b)
			case 19:
				if r.Intn(4) == 0 {
					x.Crash(a, b, wild())
				}
			case 20:
				x.Start(a, b)
			case 21:
				x.Status(a, b)
				x.Log(a, b)
			case 22:
				x.Dump(a, b)
				x.Files(a)
			default:
				x.Route(text())
				x.Packets()
			}
		}
	})
	r := rand.New(rand.NewSource(1))
	for range 2000 {
		cluster.Check(api.ClusterConfig{Nodes: r.Intn(10) - 1, Disk: r.Int() - r.Int(), Splits: [][]byte{long(r.Intn(400)), long(r.Intn(400))}})
	}
}
