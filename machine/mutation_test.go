package machine_test

import (
	"fmt"
	"math"
	"strings"
	"testing"

	"strata/api"
)

// 15.5: each condition against a value that is not there, sorts ahead, is the same, or sorts behind.
func TestConditions(t *testing.T) {
	const none = "none"
	holds := map[int]func(is bool, v, w string) bool{
		api.CThere:  func(is bool, v, w string) bool { return is },
		api.CAbsent: func(is bool, v, w string) bool { return !is },
		api.CSame:   func(is bool, v, w string) bool { return is && v == w },
		api.COther:  func(is bool, v, w string) bool { return is && v != w },
		api.CBelow:  func(is bool, v, w string) bool { return is && v < w },
		api.CAbove:  func(is bool, v, w string) bool { return is && v > w },
	}
	texts := []string{"", "\x00", "a", "a\x00", "ab", "b", "\x7f", "\x80", "\xff", "\xff\xff", strings.Repeat("b", api.MaxValue)}
	for _, v := range append([]string{none}, texts...) {
		b := begin(t, two)
		b.do(mutate("r", put("other", 0, "a"), ofG(put("q", 0, "a"))))
		b.do(mutate("s", put("q", 0, "a")))
		if v != none {
			b.do(mutate("r", put("q", 0, v)))
		}
		for kind, want := range holds {
			for _, w := range texts {
				if kind == api.CThere || kind == api.CAbsent {
					w = ""
				}
				reply := api.Reply{}
				if want(v != none, v, w) {
					reply = held(0)
				}
				b.want(given(mutate("r", put("p", 0, "x")), cond(kind, "q", w)), reply)
			}
		}
	}
}

// 15.5: a condition asks the newest visible value: of many versions, of ones that are masked, deleted, too old, or later than the clock.
func TestConditionsAskTheNewest(t *testing.T) {
	b := begin(t, two)
	newest := func(fam int, want string) {
		t.Helper()
		c := api.Cond{Kind: api.CSame, Fam: fam, Qual: []byte("q"), Value: []byte(want)}
		if want == "" {
			c = api.Cond{Kind: api.CAbsent, Fam: fam, Qual: []byte("q")}
		}
		b.want(given(mutate("r", put("p", 0, "x")), c), held(0))
	}
	b.do(tick(9))
	newest(0, "")
	b.do(mutate("r", put("q", 5, "five")))
	newest(0, "five")
	b.do(mutate("r", put("q", 3, "three")))
	newest(0, "five")
	b.do(mutate("r", put("q", 50, "fifty")))
	newest(0, "fifty")
	b.do(mutate("r", put("q", 50, "fifty again")))
	newest(0, "fifty again")
	b.do(mutate("r", kill(api.OCell, "q", 50)))
	newest(0, "five")
	b.do(mutate("r", put("q", 7, "seven")))
	newest(0, "seven")
	b.do(mutate("r", kill(api.OCell, "q", 7)))
	newest(0, "") // two husks are ahead of the third one
	b.do(mutate("r", put("q", 51, "x"), put("q", 52, "y")))
	newest(0, "y")
	b.do(mutate("r", kill(api.OCol, "q", 52)))
	newest(0, "")
	b.do(mutate("r", put("q", 52, "late")))
	newest(0, "")
	b.do(mutate("r", put("q", 53, "later")))
	newest(0, "later")
	b.do(mutate("r", ofG(put("q", 0, "g")), api.Op{Kind: api.OFam, Ts: 60}))
	newest(0, "")
	newest(1, "g")
	b.do(tick(9))
	newest(1, "g")
	b.do(tick(1))
	newest(1, "")
	for i := range 3 {
		mustErr(t, "Flush", b.m.Flush(), api.OK)
		newest(0, "")
		newest(1, "")
		b.do(mutate("r", put("q", 61+i, "z"), ofG(put("q", 99+i, "h"))))
		newest(0, "z")
		newest(1, "h")
		b.do(mutate("r", kill(api.OCol, "q", 61+i), api.Op{Kind: api.OFam, Fam: 1, Ts: 99 + i}))
	}
}

// 15.5: all conditions must hold, wherever the one stands that does not; then the ops are not even looked at.
func TestAllConditionsMustHold(t *testing.T) {
	b := begin(t, one)
	b.do(tick(5))
	b.do(advance(3))
	b.do(mutate("r", put("q", 0, "v")))
	yes, no := cond(api.CSame, "q", "v"), cond(api.CAbove, "q", "v")
	for at := range 8 {
		var conds []api.Cond
		for range 8 {
			conds = append(conds, yes)
		}
		b.want(given(mutate("r", add("n", 1)), conds...), held(at+1))
		conds[at] = no
		b.want(given(mutate("r", add("n", 1)), conds...), api.Reply{})
	}
	b.want(given(mutate("r", put("q", 1, "late")), no), api.Reply{})
	b.want(given(mutate("r", put("q", 1, "late")), yes), refused(api.ErrLate))
	b.want(given(mutate("r", add("q", 1)), no), api.Reply{})
	b.want(given(mutate("r", add("q", 1)), yes), refused(api.ErrNumber))
	// The conditions are asked of what was there ahead of the ops.
	b.want(given(mutate("r", kill(api.OCol, "q", 0), put("q", 9, "w")), yes), held(0))
	b.want(given(mutate("r", put("q", 0, "x")), yes), api.Reply{})
	b.shows(everything, `r: n@6=8 q@9="w"`)
}

// told is entries as "put r q 5 32 v".
func told(l []api.Entry) string {
	var out []string
	for _, e := range l {
		kind := []string{"", "put", "husk", "cell", "col", "fam"}[e.Kind]
		out = append(out, fmt.Sprintf("%s %s %d %s %d %d %s", kind, e.Row, e.Fam, e.Qual, e.Ts, e.Seq, e.Value))
	}
	return strings.Join(out, "; ")
}

// 15.5: what comes to the tree: an entry of each op, with its Seq, its kind and its time.
func TestEntriesOfOps(t *testing.T) {
	b := begin(t, two)
	b.do(tick(6))
	b.do(advance(4))
	b.want(mutate("r", put("a", 0, "now"), put("b", 5, ""), kill(api.OCell, "c", 0), kill(api.OCell, "d", 9), kill(api.OCol, "e", 0), kill(api.OCol, "f", 5),
		ofG(api.Op{Kind: api.OFam, Ts: 5}), api.Op{Kind: api.OFam, Fam: 0, Ts: 8}, ofG(add("", 7)), put("a", api.MaxTime, "then"), ofG(put("", 5, "g"))), held(7))
	want := "fam r 0  8 55 ; put r 0 a 1099511627776 57 then; put r 0 a 7 48 now; put r 0 b 5 49 ; cell r 0 c 7 50 ; cell r 0 d 9 51 ; col r 0 e 7 52 ; col r 0 f 5 53 ; " +
		"fam r 1  5 54 ; put r 1  7 56 " + rising(7) + "; put r 1  5 58 g"
	if got := told(b.entries()); got != want {
		t.Errorf("%s, want %s", got, want)
	}
	b.want(mutate("q", put("a", 0, "x")), held(0))
	if got := told(b.entries()); got != "put q 0 a 7 64 x; "+want {
		t.Errorf("%s", got)
	}
}

// 15.5: 16 ops that are the same, but for their Seq, are 16 entries, of which the last decides.
func TestSixteenOps(t *testing.T) {
	b := begin(t, one)
	var ops []api.Op
	for i := range 16 {
		ops = append(ops, put("q", 3, string(rune('a'+i))))
	}
	b.want(mutate("r", ops...), held(0))
	b.shows(everything, `r: q@3="p"`)
	if n := len(b.entries()); n != 16 {
		t.Errorf("%d entries", n)
	}
}

// 15.5: the ts of an op must be above low; 0 is the clock.
func TestLate(t *testing.T) {
	b := begin(t, one)
	b.want(mutate("r", put("q", 1, "x")), held(0))
	b.do(tick(9))
	b.do(advance(5))
	for _, kind := range []int{api.OPut, api.OCell, api.OCol, api.OFam} {
		for ts, late := range map[int]bool{0: false, 1: true, 4: true, 5: true, 6: false, 10: false, 11: false, api.MaxTime: false} {
			op := api.Op{Kind: kind, Ts: ts}
			want := held(0)
			if late {
				want = refused(api.ErrLate)
			}
			b.want(mutate("s", op), want)
			b.want(mutate("s", put("a", 0, "v"), op), want)
		}
	}
}

// 15.5: the first error decides, and then nothing is done.
func TestFirstErrorDecides(t *testing.T) {
	b := begin(t, one)
	b.do(tick(9))
	b.do(advance(5))
	b.do(mutate("r", put("q", 0, "no number")))
	was := b.picture()
	n := len(b.entries())
	good, late, wrong := put("p", 0, "x"), put("p", 3, "x"), add("q", 1)
	for _, c := range []struct {
		ops []api.Op
		err api.Errno
	}{
		{[]api.Op{late}, api.ErrLate}, {[]api.Op{wrong}, api.ErrNumber}, {[]api.Op{late, wrong}, api.ErrLate}, {[]api.Op{wrong, late}, api.ErrNumber},
		{[]api.Op{good, add("n", 4), wrong, late}, api.ErrNumber}, {[]api.Op{good, add("n", 4), late, wrong, good}, api.ErrLate}, {[]api.Op{add("n", 4), add("n", -5), late}, api.ErrNumber},
	} {
		b.want(mutate("r", c.ops...), refused(c.err))
		was.stat.Applied++
		if !samePicture(b.picture(), was) || len(b.entries()) != n {
			t.Fatalf("%+v: %+v, want %+v", c.ops, b.picture(), was)
		}
	}
}

// 15.5: what is a number, and which sums are.
func TestAddNumbers(t *testing.T) {
	for _, c := range []struct {
		value string
		delta int
		want  api.Reply
	}{
		{rising(0), 0, held(0)}, {rising(0), -1, refused(api.ErrNumber)}, {rising(5), -5, held(0)}, {rising(5), -6, refused(api.ErrNumber)}, {rising(5), 1 << 40, held(1<<40 + 5)},
		{rising(math.MaxInt), 0, held(math.MaxInt)}, {rising(math.MaxInt), 1, refused(api.ErrNumber)}, {rising(math.MaxInt), math.MaxInt, refused(api.ErrNumber)},
		{rising(math.MaxInt), -math.MaxInt, held(0)}, {rising(math.MaxInt), math.MinInt, refused(api.ErrNumber)}, {rising(0), math.MinInt, refused(api.ErrNumber)},
		{rising(1), math.MaxInt, refused(api.ErrNumber)}, {rising(0), math.MaxInt, held(math.MaxInt)}, {rising(1), math.MaxInt - 1, held(math.MaxInt)},
		{"", 1, refused(api.ErrNumber)}, {"1", 1, refused(api.ErrNumber)}, {"1234567", 1, refused(api.ErrNumber)}, {"12345678", 0, held(0x3132333435363738)},
		{"123456789", 1, refused(api.ErrNumber)}, {rising(1) + "\x00", 1, refused(api.ErrNumber)}, {rising(1) + rising(1), 1, refused(api.ErrNumber)},
		{"\x80\x00\x00\x00\x00\x00\x00\x00", 0, refused(api.ErrNumber)}, {"\xff\xff\xff\xff\xff\xff\xff\xff", 1, refused(api.ErrNumber)}, {"\x7f\xff\xff\xff\xff\xff\xff\xff", -1, held(math.MaxInt - 1)},
	} {
		b := begin(t, one)
		b.want(mutate("r", put("n", 0, c.value)), held(0))
		b.want(mutate("r", add("n", c.delta)), c.want)
		want := c.value
		if c.want.Held {
			want = rising(c.want.Value)
		}
		p, err := b.m.Query(api.Query{N: 1, Rows: 1})
		if err != api.OK || string(p.Rows[0].Cells[0].Value) != want {
			t.Errorf("%x + %d: %s", c.value, c.delta, textOf(p.Rows))
		}
		// The same within one mutation.
		b.want(mutate("s", put("n", 0, c.value), add("n", c.delta)), c.want)
	}
	for delta, want := range map[int]api.Reply{0: held(0), 7: held(7), math.MaxInt: held(math.MaxInt), -1: refused(api.ErrNumber), math.MinInt: refused(api.ErrNumber)} {
		begin(t, one).want(mutate("r", add("n", delta)), want)
	}
}

// 15.5: an add reads with the ops ahead of it laid over what there is; the reply tells the last one's sum.
func TestAddWithTheOpsAhead(t *testing.T) {
	for what, c := range map[string]struct {
		ops  []api.Op
		want api.Reply
		row  string
	}{
		"as it was":             {[]api.Op{add("n", 1)}, held(11), "n@4=11 n@2=10"},
		"twice":                 {[]api.Op{add("n", 1), add("n", 2)}, held(13), "n@4=13 n@2=10"},
		"of two columns":        {[]api.Op{add("n", 1), add("m", 2)}, held(2), "m@4=2 n@4=11 n@2=10"},
		"an add is not the end": {[]api.Op{add("n", 1), put("p", 0, "x")}, held(11), `n@4=11 n@2=10 p@4="x"`},
		"behind a put":          {[]api.Op{put("n", 0, rising(50)), add("n", 1)}, held(51), "n@4=51 n@2=10"},
		"behind an older put":   {[]api.Op{put("n", 1, rising(50)), add("n", 1)}, held(11), "n@4=11 n@2=10"},
		"behind a later put":    {[]api.Op{put("n", 9, rising(50)), add("n", 1)}, held(51), "n@9=51 n@2=10"},
		"behind two later puts": {[]api.Op{put("n", 9, rising(50)), put("n", 8, rising(60)), add("n", 1)}, held(51), "n@9=51 n@8=60"},
		"ahead of a put":        {[]api.Op{add("n", 1), put("n", 0, rising(50))}, held(11), "n@4=50 n@2=10"},
		"behind its deletion":   {[]api.Op{kill(api.OCell, "n", 2), add("n", 1)}, held(1), "n@4=1"},
		// The deleted put at 9 is a husk, and keeps its rank: the sum takes its place.
		"behind a husk to come": {[]api.Op{put("n", 9, rising(50)), kill(api.OCell, "n", 9), add("n", 1)}, held(11), "n@9=11 n@2=10"},
		// A deletion of what is not there is nothing, and has no rank.
		"behind nothing to come": {[]api.Op{kill(api.OCell, "n", 9), add("n", 1)}, held(11), "n@4=11 n@2=10"},
		"behind a column's mask": {[]api.Op{kill(api.OCol, "n", 3), add("n", 1)}, held(1), "n@4=1"},
		// What is masked up to the clock masks the sum too.
		"masked at the clock":            {[]api.Op{kill(api.OCol, "n", 0), add("n", 1), add("n", 2)}, held(2), ""},
		"masked at the clock, by family": {[]api.Op{{Kind: api.OFam}, add("n", 1), add("n", 2)}, held(2), ""},
		"a family's mask":                {[]api.Op{{Kind: api.OFam, Ts: 3}, add("n", 1)}, held(1), "n@4=1"},
		"a later mask, a later put":      {[]api.Op{kill(api.OCol, "n", 8), put("n", 9, rising(7)), add("n", 1)}, held(8), "n@9=8"},
		"another family's mask":          {[]api.Op{ofG(api.Op{Kind: api.OFam, Ts: 3}), add("n", 1)}, held(11), "n@4=11 n@2=10"},
		"another column's mask":          {[]api.Op{kill(api.OCol, "m", 0), kill(api.OCell, "m", 9), add("n", 1)}, held(11), "n@4=11 n@2=10"},
		"another column's later put":     {[]api.Op{put("m", 9, "x"), ofG(put("n", 10, "y")), add("n", 1)}, held(11), `m@9="x" n@4=11 n@2=10 g.n@10="y"`},
		"what is put is no number":       {[]api.Op{put("n", 0, "x"), add("n", 1)}, refused(api.ErrNumber), "n@2=10"},
		"below 0 in between":             {[]api.Op{add("n", -11), add("n", 5)}, refused(api.ErrNumber), "n@2=10"},
		"down to 0 and up":               {[]api.Op{add("n", -10), add("n", 5)}, held(5), "n@4=5 n@2=10"},
	} {
		for _, flush := range []bool{false, true} {
			b := begin(t, two)
			b.do(tick(1))
			b.do(mutate("r", put("n", 0, rising(10))))
			b.do(mutate("s", put("n", 9, rising(99))))
			b.do(tick(2))
			if flush {
				mustErr(t, "Flush", b.m.Flush(), api.OK)
			}
			if got := b.do(mutate("r", c.ops...)); !same(got, c.want) {
				t.Errorf("%s: %+v, want %+v", what, got, c.want)
			}
			p, err := b.m.Query(api.Query{To: []byte("s"), N: 16, Rows: 9, Time: api.MaxTime})
			mustErr(t, "Query", err, api.OK)
			if got := textOf(p.Rows); got != strings.TrimSuffix("r: "+c.row, "r: ") {
				t.Errorf("%s: %s, want %s", what, got, c.row)
			}
		}
	}
}

// 15.5: where the sum is put: at the clock, or where what is in and has a rank stands later.
func TestAddIsSeen(t *testing.T) {
	b := begin(t, two)
	b.do(tick(1))
	b.want(mutate("r", ofG(put("n", 20, rising(5)))), held(0))
	b.want(mutate("r", ofG(add("n", 1))), held(6))
	b.shows(everything, "r: g.n@20=6")
	b.do(tick(18))
	b.want(mutate("r", ofG(add("n", 1))), held(7))
	b.shows(everything, "r: g.n@20=7")
	b.do(tick(2))
	b.want(mutate("r", ofG(add("n", 1))), held(8))
	b.shows(everything, "r: g.n@22=8 g.n@20=7")
	// What has gone with time counts no more: neither its value nor its place.
	b.do(tick(10))
	b.want(mutate("r", ofG(add("n", 1))), held(1))
	b.shows(everything, "r: g.n@32=1")
	b.do(tick(10))
	b.want(mutate("r", ofG(add("n", 0))), held(0))
	b.shows(everything, "r: g.n@42=0")
	// A husk that is later than all.
	b.do(mutate("r", put("n", 100, "x")))
	b.do(mutate("r", kill(api.OCell, "n", 100)))
	b.want(mutate("r", add("n", 3)), held(3))
	b.shows(api.Query{N: 16, Rows: 9, Time: api.MaxTime, Fams: []int{0}}, "r: n@100=3")
	// A group above the family's versions has a rank too, but others are later.
	b.do(mutate("r", put("n", 300, rising(1)), put("n", 200, rising(2)), put("n", 400, rising(3))))
	b.want(mutate("r", add("n", 3)), held(6))
	b.shows(api.Query{N: 16, Rows: 9, Time: api.MaxTime, Fams: []int{0}}, "r: n@400=6 n@300=1")
	b.do(mutate("r", put("n", api.MaxTime, rising(1))))
	b.want(mutate("r", add("n", 3)), held(4))
	b.shows(api.Query{N: 1, Rows: 9, Time: api.MaxTime, Fams: []int{0}}, "r: n@1099511627776=4")
}

// 15.5, 15.10: rows and columns of every length, up to the greatest: a mutation looks at its own column alone.
func TestLongRowsAndColumns(t *testing.T) {
	long := strings.Repeat("\xff", 256)
	rows := []string{"\x00", "a", "a\x00", "a\x00\x00", "b", long[:255], long, long[:255] + "\xfe", strings.Repeat("a", 256), strings.Repeat("a", 255) + "b", strings.Repeat("a", 255)}
	quals := []string{"", "\x00", "q", "q\x00", "qq", long, long[:255]}
	for _, flush := range []bool{false, true} {
		b := begin(t, one)
		for i, row := range rows {
			for j, qual := range quals {
				b.want(given(mutate(row, add(qual, 100*i+j)), cond(api.CAbsent, qual, "")), held(100*i+j))
			}
			if flush {
				mustErr(t, "Flush", b.m.Flush(), api.OK)
			}
		}
		for i, row := range rows {
			for j, qual := range quals {
				b.want(given(mutate(row, add(qual, 1)), cond(api.CSame, qual, rising(100*i+j))), held(100*i+j+1))
			}
		}
	}
}

// 15.10: a mutation that is refused, or not held, leaves all as it was, of a session too but for its own.
func TestNothingIsHalfDone(t *testing.T) {
	b := begin(t, two)
	b.do(tick(20))
	b.do(advance(9))
	b.want(openSession, value(3))
	b.do(mutate("r", put("q", 0, "x"), ofG(put("n", 0, rising(4)))))
	mustErr(t, "Flush", b.m.Flush(), api.OK)
	n := len(b.entries())
	serial := 0
	for _, c := range []api.Command{
		mutate("r", put("q", 0, "y"), put("p", 0, "y"), kill(api.OCol, "q", 9)),
		mutate("r", kill(api.OCol, "q", 0), ofG(add("n", -5))),
		mutate("r", api.Op{Kind: api.OFam}, ofG(add("n", 1)), add("m", -1)),
		given(mutate("r", api.Op{Kind: api.OFam}), cond(api.CSame, "q", "x"), cond(api.CBelow, "q", "x")),
	} {
		was := b.picture()
		b.do(c)
		was.stat.Applied++
		if !samePicture(b.picture(), was) || len(b.entries()) != n {
			t.Fatalf("%+v: %+v, want %+v", c, b.picture(), was)
		}
		serial++
		reply := b.do(in(3, serial, c))
		was.stat.Applied++
		was.stat.Sessions = []api.Session{{Client: 3, Serial: serial, Seen: 21, Reply: replyBytes(reply)}}
		was.state = stateBytes(was.stat.Sessions...)
		if !samePicture(b.picture(), was) || len(b.entries()) != n || reply.Held {
			t.Fatalf("%+v: %+v, want %+v", c, b.picture(), was)
		}
	}
}
