package journal_test

import (
	"bytes"
	"fmt"
	"math/rand"
	"slices"
	"testing"

	"strata/api"
	"strata/disk"
	"strata/journal"
)

// pair is a journal and the model of it, each over a disk of its own to which the same happens.
type pair struct {
	t     *testing.T
	r     *rand.Rand
	d, md *disk.Disk
	j     *journal.Journal
	m     *model
	count map[string]int
}

func newPair(t *testing.T, r *rand.Rand, capacity int, files ...api.File) *pair {
	d, err := disk.Load(capacity, files...)
	md, _ := disk.Load(capacity, files...)
	if err != api.OK {
		t.Fatal(err)
	}
	p := &pair{t: t, r: r, d: d, md: md, count: map[string]int{}}
	p.open("n", 256)
	return p
}

func (p *pair) open(prefix string, limit int) api.Errno {
	p.t.Helper()
	j, err := journal.Open(p.d, prefix, limit)
	m, want := openModel(p.md, prefix, limit)
	if err != want || (j == nil) != (err != api.OK) {
		p.t.Fatalf("Open(%q, %d): %d, want %d, of\n%s", prefix, limit, err, want, told(p.d))
	}
	p.count[fmt.Sprintf("open %d", err)]++
	if err == api.OK {
		p.j, p.m = j, m
		p.same("Open")
	} else {
		mustHold(p.t, "Open refused", p.d, p.md)
	}
	return err
}

func (p *pair) same(what string) {
	p.t.Helper()
	mustBe(p.t, what, p.j, p.d, p.m)
}

func (p *pair) answered(what string, got, want api.Errno) {
	p.t.Helper()
	if got != want {
		p.t.Fatalf("%s: %d, want %d", what, got, want)
	}
	p.count[fmt.Sprintf("%s %d", what, got)]++
	p.same(what)
}

// drawEntries: entries that may stand from there on, of this many.
func (p *pair) drawEntries(h api.Hard, from, n int) []api.LogEntry {
	var l []api.LogEntry
	term := 1
	if all := p.m.all(); from > p.m.base.Index && from-p.m.base.Index <= len(all) {
		term = max(1, all[from-p.m.base.Index-1].Term)
	}
	for i := range n {
		if h.Term > term && p.r.Intn(3) == 0 {
			term += 1 + p.r.Intn(h.Term-term)
		}
		data := make([]byte, p.r.Intn(1+p.r.Intn(60)))
		p.r.Read(data)
		l = append(l, api.LogEntry{Index: from + i, Term: term, Data: data})
	}
	return l
}

func (p *pair) drawHard() api.Hard {
	h := p.m.hard
	switch p.r.Intn(12) {
	case 0, 1, 2:
		h.Term += 1 + p.r.Intn(3)
		h.Vote = p.r.Intn(8)
	case 3:
		h.Vote = p.r.Intn(8)
	case 4:
		h.Term -= p.r.Intn(3)
	case 5:
		if p.r.Intn(4) == 0 {
			h = api.Hard{Term: p.r.Intn(5) - 2, Vote: p.r.Intn(12) - 2}
		}
	}
	return h
}

func (p *pair) drawSave() (api.Hard, int, []api.LogEntry) {
	h, base, last := p.drawHard(), p.m.base.Index, p.m.last().Index
	var l []api.LogEntry
	from := 0
	switch p.r.Intn(10) {
	case 0:
	case 1, 2:
		from = base + 1 + p.r.Intn(last-base+1)
		l = p.drawEntries(h, from, p.r.Intn(5))
	case 3:
		from = base - 1 + p.r.Intn(last-base+5)
		l = p.drawEntries(h, from, p.r.Intn(3))
	default:
		from = last + 1
		l = p.drawEntries(h, from, 1+p.r.Intn(6))
	}
	if len(l) > 0 && p.r.Intn(12) == 0 {
		p.spoil(&l[p.r.Intn(len(l))])
	}
	return h, from, l
}

func (p *pair) spoil(e *api.LogEntry) {
	switch p.r.Intn(3) {
	case 0:
		e.Index += p.r.Intn(3) - 1
	case 1:
		e.Term += p.r.Intn(5) - 2
	case 2:
		e.Term = p.r.Intn(2)
	}
}

func (p *pair) step() {
	p.t.Helper()
	switch k := p.r.Intn(40); {
	case k < 24:
		h, from, l := p.drawSave()
		want := p.m.save(h, from, l...)
		p.answered("Save", p.j.Save(h, from, l...), want)
	case k < 29:
		to := p.m.base.Index - 1 + p.r.Intn(len(p.m.list)+3)
		want := p.m.trim(to)
		p.answered("Trim", p.j.Trim(to), want)
	case k < 31:
		h, index, term := p.drawHard(), p.m.base.Index-1+p.r.Intn(len(p.m.list)+5), p.r.Intn(p.m.hard.Term+2)
		want := p.m.reset(h, index, term)
		p.answered("Reset", p.j.Reset(h, index, term), want)
	case k < 33:
		p.open("n", 256+p.r.Intn(400))
	case k < 37:
		n := p.r.Intn(9)
		p.d.Arm(n)
		p.md.Arm(n)
	case k < 38:
		p.crash()
	default:
		p.other()
	}
	if p.d.Down() && p.r.Intn(3) > 0 {
		p.crash()
	}
}

// other: somebody else's files come and go.
func (p *pair) other() {
	name := fmt.Sprint("other", p.r.Intn(300))
	b := make([]byte, p.r.Intn(300))
	for _, d := range []*disk.Disk{p.d, p.md} {
		if slices.Contains(d.List(""), name) {
			d.Delete(name)
		} else if d.Create(name) == api.OK {
			d.Append(name, b)
		}
	}
}

func (p *pair) crash() {
	p.t.Helper()
	cuts := []int{p.r.Intn(200) - 20, p.r.Intn(400) - 20, p.r.Intn(200)}
	if p.r.Intn(3) == 0 {
		cuts = []int{1 << 20, 1 << 20, 1 << 20, 1 << 20}
	}
	p.d.Crash(cuts...)
	p.md.Crash(cuts...)
	p.d.Arm(0)
	p.open("n", 256+p.r.Intn(400))
}

// drawnPair: a disk that is large, small, or nearly full of files.
func drawnPair(t *testing.T, r *rand.Rand) *pair {
	capacity := 1 << 20
	if r.Intn(2) == 0 {
		capacity = 60 + r.Intn(3000)
	}
	var files []api.File
	if r.Intn(4) == 0 {
		for i := range 252 + r.Intn(5) {
			files = append(files, api.File{Name: fmt.Sprint("other", i)})
		}
	}
	return newPair(t, r, capacity, files...)
}

// 17.1 to 17.7, 17.10: drawn calls, rooms, files of others, power that fails and tails of any length: a journal answers and writes, act by act, what the chapter's words told a second time do.
func TestStories(t *testing.T) {
	t.Parallel()
	total := map[string]int{}
	for seed := range 1500 {
		p := drawnPair(t, rand.New(rand.NewSource(int64(seed))))
		for range 60 {
			p.step()
		}
		for k, n := range p.count {
			total[k] += n
		}
		total["segments "+fmt.Sprint(min(p.j.Segments(), 3))]++
	}
	for _, k := range []string{
		"Save 0", "Save 3", "Save 4", "Save 44", "Save 171", "Save 172", "Save 174",
		"Trim 0", "Trim 3", "Trim 4", "Trim 44", "Trim 173",
		"Reset 0", "Reset 3", "Reset 4", "Reset 44", "Reset 172", "Reset 173",
		"open 0", "open 3", "segments 0", "segments 1", "segments 2", "segments 3",
	} {
		if total[k] < 10 {
			t.Errorf("%s came %d times", k, total[k])
		}
	}
}

// 17.8: behind any crash a drawn story opens, and says what it said behind the last call that was answered OK, or behind the one that the power ended.
func TestStoriesBehindACrash(t *testing.T) {
	t.Parallel()
	old, whole := 0, 0
	for seed := range 3000 {
		r := rand.New(rand.NewSource(int64(seed)))
		d, _ := disk.New(1 << 20)
		j, err := journal.Open(d, "n", 256)
		said, ended := saying(t, j), saying(t, j)
		for range 30 {
			if err != api.OK {
				t.Fatalf("seed %d: Open %d of\n%s", seed, err, told(d))
			}
			d.Arm(r.Intn(12))
			for range 8 {
				last, _ := j.Last()
				base, _ := j.Base()
				h := api.Hard{Term: j.Hard().Term + r.Intn(2)*r.Intn(2), Vote: j.Hard().Vote}
				h.Term = max(h.Term, 1)
				call, want := randomCall(r, h, base, last, said)
				if err := call(j); err != api.OK {
					ended = want
					break
				}
				said, ended = want, want
			}
			d.Crash(r.Intn(150), r.Intn(150))
			j, err = journal.Open(d, "n", 256)
			if err != api.OK {
				t.Fatalf("seed %d: Open %d of\n%s", seed, err, told(d))
			}
			switch now := saying(t, j); {
			case now.is(ended):
				whole++
			case now.is(said):
				old++
			default:
				t.Fatalf("seed %d: %+v, want %+v or %+v", seed, now, said, ended)
			}
			said, ended = saying(t, j), saying(t, j)
		}
	}
	if old < 1000 || whole < 1000 {
		t.Errorf("%d old, %d whole", old, whole)
	}
}

// sayings: all that a journal tells.
type sayings struct {
	hard       api.Hard
	base, term int
	list       []api.LogEntry
}

func saying(t *testing.T, j *journal.Journal) sayings {
	t.Helper()
	base, term := j.Base()
	last, _ := j.Last()
	l, err := j.Entries(base+1, last)
	if err != api.OK {
		t.Fatal(err)
	}
	return sayings{j.Hard(), base, term, l}
}

func (s sayings) is(x sayings) bool {
	return s.hard == x.hard && s.base == x.base && s.term == x.term && same(s.list, x.list)
}

// randomCall: a call that is not refused, and what is said behind it.
func randomCall(r *rand.Rand, h api.Hard, base, last int, s sayings) (func(j *journal.Journal) api.Errno, sayings) {
	switch r.Intn(6) {
	case 0:
		to := base + r.Intn(last-base+1)
		x := sayings{s.hard, to, s.term, s.list[to-base:]}
		if to > base {
			x.term = s.list[to-base-1].Term
		}
		return func(j *journal.Journal) api.Errno { return j.Trim(to) }, x
	case 1:
		index := last + 1 + r.Intn(3)
		return func(j *journal.Journal) api.Errno { return j.Reset(h, index, h.Term) }, sayings{h, index, h.Term, nil}
	}
	from := base + 1 + r.Intn(last-base+1)
	if r.Intn(2) == 0 {
		from = last + 1
	}
	l := []api.LogEntry{}
	for i := range r.Intn(4) {
		l = append(l, api.LogEntry{Index: from + i, Term: h.Term, Data: bytes.Repeat([]byte{byte(r.Intn(256))}, r.Intn(50))})
	}
	x := sayings{h, s.base, s.term, slices.Concat(s.list[:from-base-1], l)}
	return func(j *journal.Journal) api.Errno { return j.Save(h, from, l...) }, x
}
