package shell_test

import (
	"bytes"
	"fmt"
	"math/rand"
	"strings"
	"testing"

	"strata/api"
	"strata/disk"
	"strata/shell"
)

// story is a shell and the model of one, which go through the same lines.
type story struct {
	r *rand.Rand
	x *shell.Shell
	m *model
	q api.Query // the last question
}

// line is what is played, and what the model answers to it.
type line struct {
	text string
	want func() string
}

func newStory(t *testing.T, seed, capacity int) *story {
	d, err := disk.New(capacity)
	mustErr(t, "disk.New", err, api.OK)
	return &story{r: rand.New(rand.NewSource(int64(seed))), x: begin(t, capacity), m: &model{d: d}}
}

// whenOpen: most lines are refused, if nothing is open; and then, if a family is none.
func (s *story) whenOpen(text string, want func() string, fams ...int) line {
	return line{text, func() string {
		switch {
		case s.m.x == nil:
			return failed(api.ErrStarted)
		case !s.m.hasFams(fams...):
			return failed(api.ErrFam)
		}
		return want()
	}}
}

// few draws one of some numbers.
func (s *story) few(l ...int) int { return l[s.r.Intn(len(l))] }

func (s *story) drawBytes(l ...string) []byte { return []byte(pick(s.r, l...)) }

// fam draws a family's number, rarely one that is none.
func (s *story) fam() int {
	if s.m.s == nil || s.r.Intn(40) == 0 {
		return 8
	}
	return s.r.Intn(len(s.m.s.Fams))
}

func (s *story) qual() []byte { return s.drawBytes("q", "q", "n", "", "\x00\"", "p\\\xff ä#") }

func (s *story) row() []byte {
	return s.drawBytes("a", "b", "b", "c", "r\x00", "\"", "zz", strings.Repeat("w", 256), "")
}

func (s *story) value() []byte {
	return s.drawBytes("", "x", "\x00\x00\x00\x00\x00\x00\x00\x05", "some more, # \"of\" it\n", strings.Repeat("long ", 40))
}

// client draws a session and a serial of it that may well be the next, or none.
func (s *story) client() (int, int) {
	if s.m.m == nil || s.r.Intn(2) == 0 {
		return 0, 0
	}
	l := s.m.m.Stat().Sessions
	if len(l) == 0 || s.r.Intn(20) == 0 {
		return s.few(-1, 0, 1, 99), s.few(-1, 0, 1)
	}
	x := l[s.r.Intn(len(l))]
	return x.Client, x.Serial + s.few(1, 1, 1, 1, 0, 0, 2)
}

func (s *story) drawMutation() line {
	c := api.Command{Kind: api.MMutate, Row: s.row()}
	c.Client, c.Serial = s.client()
	var fams []int
	for range s.few(0, 0, 0, 1, 2) + s.r.Intn(200)/199*8 {
		x := api.Cond{Kind: 1 + s.r.Intn(6), Fam: s.fam(), Qual: s.qual()}
		if x.Kind >= api.CSame {
			x.Value = s.value()
		}
		c.Conds, fams = append(c.Conds, x), append(fams, x.Fam)
	}
	for range s.few(1, 1, 2, 3) + s.r.Intn(100)/99*16 {
		x := api.Op{Kind: s.few(1, 1, 1, 1, 2, 3, 4, 5, 5), Fam: s.fam()}
		if x.Kind != api.OFam {
			x.Qual = s.qual()
		}
		if x.Kind == api.OPut {
			x.Value = s.value()
		}
		if x.Kind == api.OAdd {
			x.Delta = s.few(1, 2, 5, -1, 1<<62)
		} else {
			x.Ts = s.few(0, 0, 1, 2, 3, 5, 9, 20, 70, -1)
		}
		c.Ops, fams = append(c.Ops, x), append(fams, x.Fam)
	}
	return s.whenOpen(s.m.mutationText(s.r, c), func() string { return s.m.apply(c) }, fams...)
}

func (s *story) drawQuestion() api.Query {
	if len(s.m.token) > 0 && s.r.Intn(3) > 0 {
		s.q.Token, s.q.Rows = s.m.token, s.few(1, 2, 9)
		return s.q
	}
	q := api.Query{N: s.few(1, 1, 2, 3, 0), Rows: s.few(1, 2, 9, 1000, 1001), Time: s.few(0, 0, 0, 1, 3, 9, 50, 1<<40, -1), Reverse: s.r.Intn(3) == 0}
	if s.r.Intn(3) == 0 {
		q.From, q.To = s.row(), s.row()
	}
	if s.r.Intn(3) == 0 {
		q.Fams = append(q.Fams, s.fam())
		for s.r.Intn(2) == 0 {
			q.Fams = append(q.Fams, s.fam())
		}
	}
	if s.r.Intn(5) == 0 {
		q.Prefix = s.drawBytes("q", "p\\", "\x00")
	}
	if s.r.Intn(4) == 0 {
		q.Where = pick(s.r, `ts > 2`, `value = "x" or qual ^ "\00"`, `fam = f`, `not`, "\n", `value < "\\\"\00"`)
	}
	s.q = q
	if s.r.Intn(6) == 0 {
		q.Token = s.m.token
	}
	return q
}

func (s *story) drawGet() line {
	q := s.drawQuestion()
	return s.whenOpen("get "+s.m.questionText(s.r, q), func() string { return s.m.get(q) }, q.Fams...)
}

func (s *story) drawAsk() line {
	c := api.Command{Kind: api.MRead, Query: s.drawQuestion()}
	c.Client, c.Serial = s.client()
	return s.whenOpen(fmt.Sprintf("ask %d %d %s", c.Client, c.Serial, s.m.questionText(s.r, c.Query)), func() string { return s.m.apply(c) }, c.Query.Fams...)
}

func (s *story) drawTable() line {
	var x api.Schema
	text := "table"
	for i := range 1 + s.r.Intn(3) {
		f := api.Family{Name: pick(s.r, "f", "g", "h", "back", "if_", "x"+strings.Repeat("0", 31)), Max: s.few(1, 2, 3, 16, 17), TTL: s.few(0, 0, 5, 30, -1)}
		x.Fams = append(x.Fams, f)
		text += fmt.Sprintf("%s %s %d %d", []string{"", " ,"}[min(i, 1)], f.Name, f.Max, f.TTL)
	}
	return line{text, func() string { return s.m.table(x) }}
}

func (s *story) drawOpen() line {
	o := api.Options{Block: s.few(64, 100, 4096, 64, 64, 63), Bits: s.few(0, 1, 10, 20), Mem: s.few(1, 100, 4096), Stall: s.few(1, 8, 64)}
	return line{fmt.Sprintf("open %d %d %d %d", o.Block, o.Bits, o.Mem, o.Stall), func() string { return s.m.open(o) }}
}

// drawCommand is a line that takes an index, if nothing refuses it.
func (s *story) drawCommand() line {
	c := api.Command{Kind: api.MOpen}
	text := "session"
	switch s.r.Intn(8) {
	case 0, 1, 2:
		c = api.Command{Kind: api.MTick, N: s.few(1, 1, 1, 2, 3, 20, 70, 0, 1<<40)}
		text = fmt.Sprint("tick ", c.N)
	case 3, 4:
		c = api.Command{Kind: api.MAdvance, N: s.few(0, 1, 2, 3, 5, 9, 20, -1)}
		text = fmt.Sprint("advance ", c.N)
	case 5:
		c = api.Command{Kind: api.MClose}
		c.Client, c.Serial = s.client()
		text = fmt.Sprint("end ", c.Client, " ", c.Serial)
	}
	return s.whenOpen(text, func() string { return s.m.apply(c) })
}

// drawUpkeep is a line that nobody should see by what is read.
func (s *story) drawUpkeep() line {
	m := s.m
	kind := s.r.Intn(12)
	if m.j != nil {
		// So a job gets to its end, now and then.
		kind = max(kind, 2+s.r.Intn(7))
	}
	switch n := s.few(-1, 0, 1, 2, 3, 9); kind {
	case 0, 1, 2:
		return s.whenOpen("flush", func() string { m.abort(); return plain(m.m.Flush()) })
	case 3:
		return s.whenOpen("compact major", func() string { return m.compact(true) })
	case 4, 5:
		return s.whenOpen("compact minor", func() string { return m.compact(false) })
	case 6, 7:
		return s.whenOpen(fmt.Sprint("step ", n), func() string { return m.step(n) })
	case 8, 9:
		return s.whenOpen("finish", func() string { return m.finish() })
	case 10:
		return s.whenOpen("abort", func() string {
			if m.j == nil {
				return failed(api.ErrJob)
			}
			m.abort()
			return ok()
		})
	default:
		return s.whenOpen("backup", m.keep)
	}
}

// drawTelling is a line that changes nothing.
func (s *story) drawTelling() line {
	m := s.m
	switch n := s.few(-1, 0, 0, 1, 2, 3, 4, 5, 6, 17); s.r.Intn(7) {
	case 0:
		return s.whenOpen("runs", m.runs)
	case 1, 2:
		return s.whenOpen(fmt.Sprint("dump ", n), func() string { return m.dump(n) })
	case 3:
		return s.whenOpen("stat", m.stat)
	case 4:
		return s.whenOpen("digest", m.digest)
	case 5:
		return s.whenOpen(fmt.Sprint("verify ", n), func() string { _, err := m.x.Verify(n); return plain(err) })
	default:
		return line{"files", m.files}
	}
}

func (s *story) drawPower() line {
	m := s.m
	switch n := s.few(-1, 0, 1, 1, 2, 3, 4, 6); s.r.Intn(8) {
	case 0, 1:
		return line{fmt.Sprint("arm ", n), func() string { m.d.Arm(n); return ok() }}
	case 2, 3, 4:
		cuts := []int{s.few(-1, 0, 1, 20), s.few(0, 3, 999)}[:s.r.Intn(3)]
		return line{strings.Trim("crash "+strings.Trim(fmt.Sprint(cuts), "[]"), " "), func() string { m.end(); return ok(m.d.Crash(cuts...)) }}
	case 5:
		return s.whenOpen("close", func() string { m.abort(); m.end(); return ok() })
	case 6:
		return line{"restore", m.restore}
	default:
		name, bit := s.drawBytes("k.RUN-1", "k.RUN-2", "k.MANIFEST", "none", "", "no name"), s.few(0, 100, 1000, -1, 1<<40)
		return line{fmt.Sprintf("flip %s %d", spelt(s.r, name), bit), func() string { return plain(m.d.Flip(string(name), bit)) }}
	}
}

func (s *story) draw() line {
	switch n := s.r.Intn(100); {
	case s.m.s == nil && n < 30 || n < 1:
		return s.drawTable()
	case s.m.s != nil && s.m.x == nil && n < 60 || n < 2:
		return s.drawOpen()
	case n < 40:
		return s.drawMutation()
	case n < 48:
		return s.drawCommand()
	case n < 58:
		return s.drawGet()
	case n < 63:
		return s.drawAsk()
	case n < 80 || s.m.j != nil && n < 88:
		return s.drawUpkeep()
	case n < 94:
		return s.drawTelling()
	}
	return s.drawPower()
}

// 20.4, 20.5: whatever lines come, in whatever order: each is answered as the chapter says, and the disk holds what it then must.
func TestStories(t *testing.T) {
	total := manySeeds(t, 480, func(t *testing.T, seed int, count map[string]int) {
		s := newStory(t, seed, []int{1 << 20, 1 << 20, 9000, 3000, 600}[seed%5])
		var log []string
		for range 150 {
			l := s.draw()
			want := l.want()
			got := s.x.Do(l.text)
			log = append(log, fmt.Sprintf("%s -> %s", l.text, got))
			if got != want {
				t.Fatalf("seed %d: want %s\n%s", seed, want, strings.Join(log, "\n"))
			}
			if !sameFiles(s.x.Files(), s.m.d.Files()) {
				t.Fatalf("seed %d: other files\n%s", seed, strings.Join(log, "\n"))
			}
			word, _, _ := strings.Cut(l.text, " ")
			answer, _, _ := strings.Cut(got, " ")
			count[word+" "+answer]++
			if answer == "error" {
				count[got]++
			}
		}
	})
	t.Log(total)
	least := map[string]int{"error 203": 1000, "error 21": 100, "error 3": 100, "error 4": 50, "error 182": 20, "error 122": 100, "error 110": 5, "error 114": 50, "error 117": 5, "error 152": 5, "error 153": 20, "error 155": 20, "error 130": 50, "error 131": 20, "error 132": 20, "error 145": 50, "error 144": 10, "error 146": 5, "error 202": 5}
	for f := range strings.FieldsSeq("table open close session end tick advance mutate ask get flush compact step finish abort runs dump stat digest verify backup arm crash files flip") {
		least[f+" ok"] = 20
	}
	atLeast(t, total, least)
}

func sameFiles(a, b []api.File) bool {
	if len(a) != len(b) {
		return false
	}
	for i := range a {
		if a[i].Name != b[i].Name || a[i].Synced != b[i].Synced || !bytes.Equal(a[i].Data, b[i].Data) {
			return false
		}
	}
	return true
}
