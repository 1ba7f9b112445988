package machine_test

import (
	"bytes"
	"encoding/hex"
	"slices"
	"testing"

	"strata/api"
	"strata/machine"
	"strata/order"
	"strata/tree"
	"strata/wire"
)

// 15.1: the bytes, one by one.
func TestStateBytes(t *testing.T) {
	b := begin(t, one)
	mustBe := func(body ...byte) {
		t.Helper()
		want, err := wire.Frame(body)
		mustErr(t, "Frame", err, api.OK)
		if got := b.m.State(); !bytes.Equal(got, want) {
			t.Fatalf("%x, want %x", got, want)
		}
	}
	mustBe(0x53, 0)
	b.want(openSession, value(1))
	mustBe(0x53, 1, 1, 0, 1, 0)
	b.want(tick(1), value(2))
	b.want(in(1, 1, mutate("a", add("n", 300))), held(300))
	// Err 0, held, 300, no row, no token, not done.
	mustBe(0x53, 1, 1, 1, 2, 7, 0, 1, 0xac, 2, 0, 0, 0)
	b.want(openSession, value(4))
	b.want(in(4, 1, read(api.Query{N: 1, Rows: 1})), api.Reply{Page: api.Page{Rows: []api.Row{{Row: []byte("a"), Cells: []api.Cell{{Qual: []byte("n"), Ts: 2, Value: []byte(rising(300))}}}}, Token: tokenBehind(b, "a")}})
	mustBe(0x53, 2, 1, 1, 2, 7, 0, 1, 0xac, 2, 0, 0, 0, 4, 1, 2, 0)
	b.want(in(1, 2, advance(9)), refused(api.ErrBack))
	mustBe(0x53, 2, 1, 2, 2, 7, 0x9c, 1, 0, 0, 0, 0, 0, 4, 1, 2, 0)
	b.want(in(1, 3, closeSession), api.Reply{})
	mustBe(0x53, 1, 4, 1, 2, 0)
}

// tokenBehind is what goes on behind a row, of a question for one row.
func tokenBehind(b *bench, row string) []byte {
	q := api.Query{N: 1, Rows: 1}
	p, err := b.m.Query(q)
	mustErr(b, "Query", err, api.OK)
	if len(p.Rows) != 1 || string(p.Rows[0].Row) != row {
		b.Fatalf("%+v", p)
	}
	return p.Token
}

// 15.1: by rising Client, though 9 and 10 were opened behind each other, and whichever way a map is gone through.
func TestStateIsInOrder(t *testing.T) {
	b := begin(t, one)
	for range 300 {
		b.do(noop)
	}
	for range 16 {
		b.do(openSession)
		b.do(noop)
	}
	var want []api.Session
	for i := range 16 {
		want = append(want, api.Session{Client: 301 + 2*i, Seen: 1})
	}
	for range 50 {
		if !bytes.Equal(b.m.State(), stateBytes(want...)) || !same(b.m.Stat().Sessions, want) {
			t.Fatalf("%x, %+v", b.m.State(), b.m.Stat())
		}
	}
	mustErr(t, "Flush", b.m.Flush(), api.OK)
	b.open()
	if !same(b.m.Stat().Sessions, want) {
		t.Errorf("%+v", b.m.Stat())
	}
}

// standing is a tree that stands at index 40, the clock 30 and the low 20, with a state.
func standing(t *testing.T, state []byte) *tree.Tree {
	t.Helper()
	b := begin(t, one)
	mustErr(t, "Install", b.x.Install(api.Image{Index: 40, Clock: 30, Low: 20, State: state}), api.OK)
	return b.x
}

func frame(body ...byte) []byte {
	b, _ := wire.Frame(body)
	return b
}

// body is what a state's frame holds.
func body(state []byte) []byte {
	b, _, _ := wire.ReadFrame(state, 0)
	return b
}

func reply(n int) []byte {
	b, _ := order.EncodeReply(value(n))
	return b
}

// 15.1, 15.2: what is a state, up to its edges.
func TestStatesThatAreTaken(t *testing.T) {
	var sixteen []api.Session
	for i := range 16 {
		sixteen = append(sixteen, api.Session{Client: 25 + i, Serial: 1, Reply: reply(i)})
	}
	for _, c := range [][]api.Session{
		{}, sixteen,
		{{Client: 1}},
		{{Client: 40}},
		{{Client: 39, Seen: 3}, {Client: 40, Serial: 7, Seen: 29, Reply: reply(5)}},
		{{Client: 1, Serial: api.MaxIndex, Seen: api.MaxTime}},
		{{Client: 1, Serial: api.MaxIndex, Seen: api.MaxTime, Reply: reply(1 << 62)}},
		{{Client: 5, Serial: 1}, {Client: 6, Serial: 1, Reply: bytes.Repeat([]byte{1}, 100000)}},
	} {
		x := standing(t, stateBytes(c...))
		m, err := machine.Open(x)
		if m == nil || err != api.OK {
			t.Fatalf("%+v: %v, %d", c, m, err)
		}
		if s := m.Stat(); !same(s, api.MachineStat{Applied: 40, Clock: 30, Low: 20, Sessions: c}) || !bytes.Equal(m.State(), stateBytes(c...)) {
			t.Errorf("%+v: %+v, %x", c, s, m.State())
		}
		if x.Pins() != 0 {
			t.Errorf("%d views are held", x.Pins())
		}
	}
}

// 15.2: an empty state is none, wherever the tree stands.
func TestNoState(t *testing.T) {
	m, err := machine.Open(standing(t, nil))
	mustErr(t, "Open", err, api.OK)
	if s := m.Stat(); !same(s, api.MachineStat{Applied: 40, Clock: 30, Low: 20}) || !bytes.Equal(m.State(), frame('S', 0)) {
		t.Errorf("%+v, %x", s, m.State())
	}
	b := begin(t, one)
	if s := b.m.Stat(); !same(s, api.MachineStat{Clock: 1}) {
		t.Errorf("%+v", s)
	}
}

func mustRefuse(t *testing.T, what string, state []byte) {
	t.Helper()
	if m, err := machine.Open(standing(t, state)); m != nil || err != api.ErrState {
		t.Errorf("%s: %x: %v, %d", what, state, m, err)
	}
}

// 15.1, 15.2: what is no state.
func TestStatesThatAreRefused(t *testing.T) {
	full := stateBytes(api.Session{Client: 3, Serial: 2, Seen: 9, Reply: reply(4)}, api.Session{Client: 7, Seen: 300})
	var seventeen []api.Session
	for i := range 17 {
		seventeen = append(seventeen, api.Session{Client: 1 + i})
	}
	for what, state := range map[string][]byte{
		"no frame":                      []byte("x"),
		"an empty body":                 frame(),
		"another mark":                  frame('s', 0),
		"no number":                     frame('S'),
		"another length of a number":    frame('S', 0x80, 0),
		"17 sessions":                   stateBytes(seventeen...),
		"very many sessions":            frame('S', 0xff, 0xff, 0xff, 0xff, 0xff, 0xff, 0xff, 0xff, 0xff, 1),
		"more sessions than there are":  frame('S', 2, 1, 0, 1, 0),
		"fewer sessions than there are": frame('S', 1, 1, 0, 1, 0, 2, 0, 1, 0),
		"client 0":                      stateBytes(api.Session{}),
		"one client twice":              stateBytes(api.Session{Client: 3}, api.Session{Client: 3}),
		"clients that fall":             stateBytes(api.Session{Client: 4}, api.Session{Client: 3}),
		"a client above Applied":        stateBytes(api.Session{Client: 3}, api.Session{Client: 41}),
		"a client above MaxIndex":       stateBytes(api.Session{Client: api.MaxIndex + 1}),
		"a client below 0":              stateBytes(api.Session{Client: -1}),
		"a serial above MaxIndex":       stateBytes(api.Session{Client: 3, Serial: api.MaxIndex + 1}),
		"a serial below 0":              stateBytes(api.Session{Client: 3, Serial: -1}),
		"seen above MaxTime":            stateBytes(api.Session{Client: 3, Seen: api.MaxTime + 1}),
		"seen below 0":                  stateBytes(api.Session{Client: 3, Seen: -1}),
		"a reply of no serial":          stateBytes(api.Session{Client: 3, Reply: []byte{0}}),
		"a reply that ends too early":   frame('S', 1, 3, 1, 1, 2, 0),
		"a reply of very many bytes":    frame('S', 1, 3, 1, 1, 0xff, 0xff, 0xff, 0xff, 0xff, 0xff, 0xff, 0xff, 0xff, 1),
		"a byte behind the sessions":    frame(append(body(full), 0)...),
		"a byte behind the frame":       append(bytes.Clone(full), 0),
		"a frame behind the frame":      append(bytes.Clone(full), full...),
		"a byte ahead of the frame":     append([]byte{0}, full...),
	} {
		mustRefuse(t, what, state)
	}
	for n := range len(full) - 1 {
		mustRefuse(t, "a cut state", full[:n+1])
	}
	for n := range body(full) {
		mustRefuse(t, "a cut body", frame(body(full)[:n]...))
	}
	for i := range 8 * len(full) {
		turned := bytes.Clone(full)
		turned[i/8] ^= 1 << (i % 8)
		mustRefuse(t, "a bit turned over", turned)
	}
}

// 15.1: what is read is written just so, whatever bytes come in a frame.
func TestStatesAreReadStrictly(t *testing.T) {
	taken := 0
	for _, n := range []byte{0, 1, 2, 3, 40, 41, 0x80} {
		for _, a := range []byte{0, 1, 2, 0x80} {
			for _, l := range [][]byte{{'S', 1, n, a, 0, 0}, {'S', 1, n, a, 1, 1, 0}, {'S', n, 1, a, 1, 0}, {'S', 2, 1, 0, 1, 0, n, a, 1, 0}, {'S', 2, n, 0, 1, 0, 9, a, 1, 0}, {n, 1, a, 1, 0}} {
				x := standing(t, frame(l...))
				m, err := machine.Open(x)
				switch {
				case err == api.OK && !bytes.Equal(m.State(), frame(l...)):
					t.Errorf("%x was read, and is written as %x", frame(l...), m.State())
				case err == api.OK:
					taken++
				case err != api.ErrState || m != nil:
					t.Errorf("%s: %v, %d", hex.EncodeToString(l), m, err)
				}
			}
		}
	}
	if taken < 20 {
		t.Errorf("%d of them are states", taken)
	}
}

// 15.2: ErrArg comes first, and opened over a tree that goes on nothing is taken.
func TestOpenRefuses(t *testing.T) {
	if m, err := machine.Open(nil); m != nil || err != api.ErrArg {
		t.Errorf("%v, %d", m, err)
	}
	for _, state := range [][]byte{nil, stateBytes(), []byte("x")} {
		x := standing(t, state)
		mustErr(t, "Apply", x.Apply(41, 30, 20), api.OK)
		if m, err := machine.Open(x); m != nil || err != api.ErrArg {
			t.Errorf("%q: %v, %d", state, m, err)
		}
		mustErr(t, "Flush", x.Flush(stateBytes(api.Session{Client: 41})), api.OK)
		if m, err := machine.Open(x); m == nil || err != api.OK {
			t.Errorf("%q, flushed: %v, %d", state, m, err)
		}
	}
}

// 15.2, 15.6: what was flushed is what is opened: the sessions, and all that was applied up to there.
func TestOpenedAnew(t *testing.T) {
	b := begin(t, two)
	b.do(openSession)
	b.do(in(1, 1, mutate("a", put("q", 0, "x"), ofG(put("q", 0, "y")))))
	b.do(tick(4))
	b.do(in(1, 2, tick(1)))
	b.do(openSession)
	b.do(in(5, 1, read(everything)))
	b.do(advance(3))
	want := b.picture()
	mustErr(t, "Flush", b.m.Flush(), api.OK)
	if !bytes.Equal(b.x.State(), want.state) || b.x.Flushed() != 7 || !samePicture(b.picture(), want) {
		t.Fatalf("%x at %d", b.x.State(), b.x.Flushed())
	}
	b.do(mutate("b", put("q", 0, "lost")))
	b.do(tick(1))
	b.do(in(5, 2, closeSession))
	b.open()
	if !samePicture(b.picture(), want) {
		t.Fatalf("%+v, want %+v", b.picture(), want)
	}
	b.has("1:2@6+ 5:1@6")
	b.want(in(1, 2, tick(1)), value(6))
	if got := b.do(in(5, 1, read(everything))); len(got.Page.Rows) != 1 {
		t.Errorf("%+v", got)
	}
	b.want(in(5, 2, mutate("b", put("q", 0, "z"))), held(0))
	if s := b.m.Stat(); s.Applied != 10 || s.Clock != 6 || s.Low != 3 {
		t.Errorf("%+v", s)
	}
}

// 15.6: Flush hands the tree's errors on, and then all is as it was.
func TestFlushRefused(t *testing.T) {
	b := begin(t, one)
	b.do(openSession)
	b.do(in(1, 1, mutate("a", put("q", 0, "x"))))
	want := b.picture()
	mustErr(t, "Create", b.d.Create("other"), api.OK)
	mustErr(t, "Append", b.d.Append("other", make([]byte, b.d.Free())), api.OK)
	mustErr(t, "Flush", b.m.Flush(), api.ErrFull)
	if !samePicture(b.picture(), want) || b.x.Flushed() != 0 {
		t.Errorf("%+v, want %+v", b.picture(), want)
	}
	mustErr(t, "Delete", b.d.Delete("other"), api.OK)
	mustErr(t, "Flush", b.m.Flush(), api.OK)
	if !samePicture(b.picture(), want) || b.x.Flushed() != 2 {
		t.Errorf("%+v, want %+v", b.picture(), want)
	}
	runs := slices.Clone(b.x.Runs())
	mustErr(t, "Flush", b.m.Flush(), api.OK)
	if !same(b.x.Runs(), runs) || !samePicture(b.picture(), want) {
		t.Errorf("%+v", b.x.Runs())
	}
}
