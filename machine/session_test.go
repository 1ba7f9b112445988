package machine_test

import (
	"bytes"
	"fmt"
	"math/rand"
	"testing"

	"strata/api"
)

// 15.3, 15.4: sessions open up to MaxSessions, and one that ends makes room; the client is the index.
func TestSessionsOpenAndEnd(t *testing.T) {
	b := begin(t, one)
	for i := range 16 {
		b.want(openSession, value(i+1))
	}
	b.want(openSession, refused(api.ErrSessions))
	b.has("1:0@1 2:0@1 3:0@1 4:0@1 5:0@1 6:0@1 7:0@1 8:0@1 9:0@1 10:0@1 11:0@1 12:0@1 13:0@1 14:0@1 15:0@1 16:0@1")
	b.want(in(3, 2, closeSession), refused(api.ErrSerial))
	b.want(in(3, 1, closeSession), api.Reply{})
	b.has("1:0@1 2:0@1 4:0@1 5:0@1 6:0@1 7:0@1 8:0@1 9:0@1 10:0@1 11:0@1 12:0@1 13:0@1 14:0@1 15:0@1 16:0@1")
	b.want(in(3, 1, closeSession), refused(api.ErrSession))
	b.want(in(3, 2, closeSession), refused(api.ErrSession))
	b.want(openSession, value(22))
	b.want(openSession, refused(api.ErrSessions))
	b.want(tick(63), value(64))
	b.want(in(22, 1, noopOf()), held(0))
	b.want(tick(1), value(65))
	b.has("22:1@64+")
	b.want(openSession, value(27))
	b.has("22:1@64+ 27:0@65")
}

// 15.4: which serials are done, which are answered as before, which are refused.
func TestSerials(t *testing.T) {
	b := begin(t, one)
	b.want(openSession, value(1))
	b.want(openSession, value(2))
	count := in(1, 1, mutate("a", add("n", 1)))
	b.want(in(1, 2, mutate("a", add("n", 1))), refused(api.ErrSerial))
	b.has("1:0@1 2:0@1")
	b.want(count, held(1))
	b.has("1:1@1+ 2:0@1")
	b.want(count, held(1))
	b.want(mutate("a", add("n", 1)), held(2))
	b.want(count, held(1))
	// It is the serial that counts, not the command.
	for _, c := range []api.Command{noopOf(), tick(7), advance(0), read(everything), closeSession} {
		b.want(in(1, 1, c), held(1))
	}
	b.has("1:1@1+ 2:0@1")
	b.want(in(1, 2, mutate("a", add("n", 1))), held(3))
	b.want(count, refused(api.ErrSerial))
	b.want(in(1, 4, mutate("a", add("n", 1))), refused(api.ErrSerial))
	b.want(in(1, api.MaxIndex, mutate("a", add("n", 1))), refused(api.ErrSerial))
	b.want(in(2, 1, mutate("a", add("n", 1))), held(4))
	b.want(in(3, 1, mutate("a", add("n", 1))), refused(api.ErrSession))
	b.want(in(api.MaxIndex, 1, mutate("a", add("n", 1))), refused(api.ErrSession))
	b.has("1:2@1+ 2:1@1+")
	b.shows(everything, "a: n@1=4")
}

// 15.4: whatever the reply is, an error too, the serial is done by it, and the same one is answered so again.
func TestRepliesThatAreKept(t *testing.T) {
	b := begin(t, one)
	b.want(openSession, value(1))
	for i, c := range []struct {
		c      api.Command
		first  api.Reply
		behind api.Command // makes the command one that would be answered otherwise
	}{
		{given(mutate("a", put("q", 0, "x")), cond(api.CThere, "q", "")), api.Reply{}, mutate("a", put("q", 0, "x"))},
		{mutate("a", add("q", 1)), refused(api.ErrNumber), mutate("a", kill(api.OCol, "q", 0))},
		{tick(2), value(3), tick(1)},
		{tick(api.MaxTime), refused(api.ErrLast), noop},
		{mutate("b", add("n", 1)), held(1), mutate("b", add("n", 5))},
		{advance(4), refused(api.ErrBack), tick(1)},
		{advance(2), value(2), advance(3)},
		{mutate("b", put("q", 3, "x")), refused(api.ErrLate), noop},
	} {
		sent := in(1, i+1, c.c)
		b.want(sent, c.first)
		b.do(c.behind)
		was := b.picture()
		first := b.m.Stat().Sessions[0]
		b.want(sent, c.first)
		was.stat.Applied++
		was.stat.Sessions[0].Seen = b.m.Stat().Clock
		was.state = stateBytes(was.stat.Sessions...)
		if !samePicture(b.picture(), was) || !bytes.Equal(first.Reply, replyBytes(c.first)) || first.Serial != i+1 {
			t.Fatalf("%d: %+v, want %+v", i, b.picture(), was)
		}
	}
}

// 15.4: a read's reply is not kept: the same serial is read anew, if it is a read again.
func TestReadsOfSessions(t *testing.T) {
	b := begin(t, one)
	b.want(openSession, value(1))
	ask := read(api.Query{N: 1, Rows: 9})
	none := api.Reply{Page: api.Page{Done: true}}
	b.want(in(1, 2, ask), refused(api.ErrSerial))
	b.want(in(1, 1, ask), none)
	b.has("1:1@1")
	b.want(tick(1), value(2))
	b.want(mutate("a", put("q", 0, "x")), held(0))
	some := api.Reply{Page: api.Page{Rows: []api.Row{{Row: []byte("a"), Cells: []api.Cell{{Qual: []byte("q"), Ts: 2, Value: []byte("x")}}}}, Done: true}}
	b.want(in(1, 1, ask), some)
	b.has("1:1@2")
	// Another question under the same serial is answered too; what is no read is refused, and not heard.
	b.want(in(1, 1, read(api.Query{N: 1, Rows: 9, Time: 1})), none)
	b.want(tick(1), value(3))
	for _, c := range []api.Command{noopOf(), tick(9), advance(1), closeSession} {
		b.want(in(1, 1, c), refused(api.ErrSerial))
	}
	b.has("1:1@2")
	b.want(in(1, 2, ask), some)
	b.has("1:2@3")
	b.want(in(1, 1, ask), refused(api.ErrSerial))
	b.want(in(1, 3, noopOf()), held(0))
	b.has("1:3@3+")
	b.want(in(1, 3, ask), held(0))
	b.want(in(1, 2, ask), refused(api.ErrSerial))
	b.has("1:3@3+")
	b.want(in(1, 4, ask), api.Reply{Page: api.Page{Rows: []api.Row{some.Page.Rows[0], {Row: []byte("z"), Cells: []api.Cell{{Qual: []byte("q"), Ts: 3, Value: []byte("z")}}}}, Done: true}})
	b.has("1:4@3")
}

// 15.4: when a session is heard: whatever the reply is, unless the session's own rules refuse it.
func TestSeen(t *testing.T) {
	b := begin(t, one)
	b.want(openSession, value(1))
	hear := func(c api.Command, want api.Reply, sessions string) {
		t.Helper()
		b.do(tick(1))
		b.want(c, want)
		b.has(sessions)
	}
	hear(in(1, 1, noopOf()), held(0), "1:1@2+")
	hear(in(1, 1, noopOf()), held(0), "1:1@3+")
	hear(in(1, 3, noopOf()), refused(api.ErrSerial), "1:1@3+")
	hear(in(2, 1, noopOf()), refused(api.ErrSession), "1:1@3+")
	hear(noopOf(), held(0), "1:1@3+")
	hear(in(1, 2, advance(99)), refused(api.ErrBack), "1:2@7+")
	hear(in(1, 2, advance(3)), refused(api.ErrBack), "1:2@8+")
	hear(in(1, 3, given(noopOf(), cond(api.CAbsent, "q", ""))), api.Reply{}, "1:3@9+")
	hear(in(1, 4, tick(5)), value(15), "1:4@15+")
	hear(in(1, 4, tick(5)), value(15), "1:4@16+")
	hear(in(1, 5, tick(api.MaxTime)), refused(api.ErrLast), "1:5@17+")
	hear(in(1, 6, advance(5)), value(5), "1:6@18+")
	hear(in(1, 7, read(api.Query{N: 1, Rows: 1, From: []byte("zz")})), api.Reply{Page: api.Page{Done: true}}, "1:7@19")
	hear(in(1, 7, read(api.Query{N: 1, Rows: 1, From: []byte("zz")})), api.Reply{Page: api.Page{Done: true}}, "1:7@20")
	hear(in(1, 7, noopOf()), refused(api.ErrSerial), "1:7@20")
}

// 15.3, 15.4: a session ends at just its 64th tick without a word; whoever ticks is heard behind the tick alone.
func TestSessionsThatEnd(t *testing.T) {
	for _, c := range []struct {
		ticks []int
		lives bool
	}{{[]int{63}, true}, {[]int{64}, false}, {[]int{65}, false}, {[]int{1 << 39}, false}, {[]int{32, 31}, true}, {[]int{32, 32}, false}} {
		b := begin(t, one)
		b.do(openSession)
		for _, n := range c.ticks {
			b.do(tick(n))
		}
		if lives := len(b.m.Stat().Sessions) == 1; lives != c.lives {
			t.Errorf("%v: %v", c.ticks, lives)
		}
	}
	b := begin(t, one)
	b.want(openSession, value(1))
	b.want(openSession, value(2))
	b.want(in(1, 1, tick(63)), value(64))
	b.has("1:1@64+ 2:0@1")
	b.want(in(1, 2, tick(1)), value(65))
	b.has("1:2@65+")
	// The 64th tick is its own: nothing is kept.
	b.want(in(1, 3, tick(64)), value(129))
	b.has("")
	b.want(in(1, 3, tick(64)), refused(api.ErrSession))
	b.want(in(1, 4, noopOf()), refused(api.ErrSession))
	b.want(openSession, value(8))
	b.want(in(8, 1, tick(64)), value(193))
	b.has("")
	b.shows(everything, "")
	// A tick that is refused, or not done again, ends none.
	b.want(openSession, value(10))
	b.want(in(10, 1, tick(63)), value(256))
	b.want(openSession, value(12))
	b.want(in(10, 1, tick(63)), value(256))
	b.want(tick(api.MaxTime-255), refused(api.ErrLast))
	b.has("10:1@256+ 12:0@256")
}

// 15.3: at the last clock sessions still live and end.
func TestSessionsAtTheLastClock(t *testing.T) {
	b := installed(t, one, api.Image{Index: 9, Clock: api.MaxTime - 64})
	b.want(openSession, value(10))
	b.want(tick(1), value(api.MaxTime-63))
	b.want(openSession, value(12))
	b.want(tick(63), value(api.MaxTime))
	b.has("12:0@1099511627713")
	b.want(in(12, 1, noopOf()), held(0))
	b.has("12:1@1099511627776+")
	mustErr(t, "Flush", b.m.Flush(), api.OK)
	b.open()
	b.has("12:1@1099511627776+")
}

// 15.4: the greatest serial, and behind it none.
func TestLastSerial(t *testing.T) {
	b := installed(t, one, api.Image{Index: 9, Clock: 5, State: stateBytes(api.Session{Client: 9, Serial: api.MaxIndex - 1, Seen: 4, Reply: replyBytes(value(7))})})
	b.want(in(9, api.MaxIndex-1, noopOf()), value(7))
	b.want(in(9, api.MaxIndex, mutate("a", add("n", 2))), held(2))
	b.want(in(9, api.MaxIndex, mutate("a", add("n", 2))), held(2))
	b.want(in(9, api.MaxIndex-1, noopOf()), refused(api.ErrSerial))
	b.want(in(9, 1, noopOf()), refused(api.ErrSerial))
	b.has("9:1099511627776@5+")
}

// 15.9: whatever comes, in whatever order, as often as may be: each serial is done at most once, in order, without a gap, and answered alike.
func TestAtMostOnce(t *testing.T) {
	r := rand.New(rand.NewSource(159))
	doubled, jumped := 0, 0
	for range 30 {
		b := begin(t, one)
		const clients = 3
		for i := range clients {
			b.want(openSession, value(i+1))
		}
		done := map[int][]string{} // of each client its serials' replies
		sum := 0
		for range 150 {
			client := 1 + r.Intn(clients)
			last := len(done[client])
			serial := max(1, last-1+r.Intn(4))
			delta := 1 + r.Intn(9)
			if r.Intn(20) == 0 {
				mustErr(t, "Flush", b.m.Flush(), api.OK)
				b.open()
			}
			if r.Intn(8) == 0 {
				b.do(tick(r.Intn(9) + 1))
			}
			c := in(client, serial, mutate("count", add("n", delta)))
			if r.Intn(6) == 0 {
				c = in(client, serial, mutate("count", add("n", delta), put("q", 0, "x"), add("q", delta)))
			}
			got := b.do(c)
			text := fmt.Sprintf("%+v", got)
			switch {
			case serial == last+1:
				done[client] = append(done[client], text)
				if got.Err == api.OK {
					sum += delta
				}
			case serial == last:
				doubled++
				if text != done[client][last-1] {
					t.Fatalf("client %d, serial %d: %s, at first %s", client, serial, text, done[client][last-1])
				}
			default:
				jumped++
				if !same(got, refused(api.ErrSerial)) {
					t.Fatalf("client %d, serial %d behind %d: %+v", client, serial, last, got)
				}
			}
			for _, x := range b.m.Stat().Sessions {
				if x.Serial != len(done[x.Client]) {
					t.Fatalf("%+v, want the serial %d", x, len(done[x.Client]))
				}
			}
		}
		p, err := b.m.Query(api.Query{N: 1, Rows: 1, Prefix: []byte("n")})
		mustErr(t, "Query", err, api.OK)
		if sum > 0 && string(p.Rows[0].Cells[0].Value) != rising(sum) {
			t.Fatalf("%s, want %d", textOf(p.Rows), sum)
		}
	}
	if doubled < 300 || jumped < 300 {
		t.Errorf("%d doubled, %d jumped", doubled, jumped)
	}
}
