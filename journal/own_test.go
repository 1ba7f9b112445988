package journal_test

import (
	"bytes"
	"fmt"
	"math"
	"math/rand"
	"slices"
	"strings"
	"testing"
	"time"
	"unsafe"

	"strata/api"
	"strata/disk"
	"strata/journal"
)

// roomy is bytes with spare room behind them that can be looked at.
func roomy(b []byte) []byte {
	whole := slices.Concat(b, bytes.Repeat([]byte{0xc3}, 64))
	return whole[:len(b):len(whole)]
}

// handed: a list of entries that is handed in, with spare room behind it and behind each Data.
func handed(l []api.LogEntry) []api.LogEntry {
	var out []api.LogEntry
	for _, x := range l {
		x.Data = roomy(x.Data)
		out = append(out, x)
	}
	n := len(out)
	for i := range 5 {
		out = append(out, api.LogEntry{Index: 7 + i, Term: 77, Data: roomy([]byte("spare"))})
	}
	return out[:n]
}

// seen: a list with all its spare room, and that of each Data, as text.
func seen(l []api.LogEntry) string {
	out := ""
	for _, x := range l[:cap(l)] {
		out += fmt.Sprintf("%d %d %x|", x.Index, x.Term, x.Data[:cap(x.Data)])
	}
	return out
}

// scribble writes over a list with all its spare room, and that of each Data.
func scribble(l []api.LogEntry) {
	l = l[:cap(l)]
	for i := range l {
		b := l[i].Data[:cap(l[i].Data)]
		for k := range b {
			b[k] = ^b[k]
		}
		l[i] = api.LogEntry{Index: -1, Term: -1}
	}
}

// borrowed is a text over bytes that may yet change.
func borrowed(b []byte) string { return unsafe.String(unsafe.SliceData(b), len(b)) }

// 17.11: what is handed in is not changed, nor the room behind it, and not kept.
func TestWhatIsHandedInIsNeitherChangedNorKept(t *testing.T) {
	d := newDisk(t, 1<<20)
	prefix := []byte("n")
	j, err := journal.Open(d, borrowed(prefix), 256)
	mustErr(t, "Open", err, api.OK)
	prefix[0] = 'x'
	var list []api.LogEntry
	for i := 1; i <= 40; i++ {
		fresh := []api.LogEntry{{Index: i, Term: i, Data: []byte(strings.Repeat("d", i))}, {Index: i + 1, Term: i}, e(i+2, i)}
		l := handed(fresh)
		was := seen(l)
		mustErr(t, "Save", j.Save(h(i, 1), i, l...), api.OK)
		if seen(l) != was {
			t.Fatal("Save has changed what was handed in")
		}
		// Refused, it may be looked at no less.
		mustErr(t, "Save", j.Save(h(i, 1), i+9, l...), api.ErrGap)
		mustErr(t, "Save", j.Save(h(i, 1), i+1, l...), api.ErrLogEntry)
		if seen(l) != was {
			t.Fatal("Save has changed what was handed in")
		}
		scribble(l)
		list = slices.Concat(list[:i-1], fresh)
		mustSay(t, "Save", j, h(i, 1), 0, 0, list...)
	}
	mustErr(t, "Trim", j.Trim(20), api.OK)
	mustSay(t, "Trim", j, h(40, 1), 20, 20, list[20:]...)
	mustSay(t, "opened anew", open(t, d, 256), h(40, 1), 20, 20, list[20:]...)
}

// 17.11: answers are new memory, spare room too: what is written there changes no later answer, and no two lists of one answer share any.
func TestAnswersAreNewMemory(t *testing.T) {
	d := newDisk(t, 1<<20)
	j := open(t, d, 256)
	list := []api.LogEntry{e(1, 1), {Index: 2, Term: 1}, e(3, 2), {Index: 4, Term: 2, Data: []byte(strings.Repeat("x", 100))}}
	mustErr(t, "Save", j.Save(h(2, 1), 1, list...), api.OK)
	reopened := open(t, d, 256)
	trimmed := open(t, load(t, d.Files()...), 256)
	mustErr(t, "Trim", trimmed.Trim(1), api.OK)
	for i, k := range []*journal.Journal{j, reopened, trimmed} {
		base, term := k.Base()
		for from := base + 1; from <= 5; from++ {
			for to := from - 1; to <= 4; to++ {
				l, err := k.Entries(from, to)
				mustErr(t, "Entries", err, api.OK)
				disjoint(t, l)
				scribble(l)
				_ = append(l, e(99, 99))
				mustSay(t, fmt.Sprint("behind scribbling ", i), k, h(2, 1), base, term, list[base:]...)
			}
		}
	}
	// What is told stays as it is, whatever comes later.
	l, _ := j.Entries(1, 4)
	mustErr(t, "Save", j.Save(h(3, 1), 2, e(2, 3), e(3, 3), e(4, 3)), api.OK)
	mustErr(t, "Trim", j.Trim(3), api.OK)
	if !same(l, list) {
		t.Error("an answer has changed")
	}
}

// disjoint: a mark written into each Data and its spare room is seen in no other.
func disjoint(t *testing.T, l []api.LogEntry) {
	t.Helper()
	for i := range l {
		b := l[i].Data[:cap(l[i].Data)]
		for k := range b {
			b[k] = byte(i + 1)
		}
	}
	for i := range l {
		for _, c := range l[i].Data[:cap(l[i].Data)] {
			if c != byte(i+1) {
				t.Fatal("two entries share memory")
			}
		}
	}
}

// wild are numbers of all kinds.
func wild() []int {
	return []int{math.MinInt, math.MinInt + 1, -1 << 40, -1, 0, 1, 2, 3, 4, 7, 8, 255, 256, 65536, 1<<20 + 1, 1<<40 - 1, 1 << 40, 1<<40 + 1, math.MaxInt - 1, math.MaxInt}
}

// 17.11: every call ends and none panics, whatever values come; the chapter's words told a second time answer the same.
func TestWhateverValuesCome(t *testing.T) {
	t.Parallel()
	r := rand.New(rand.NewSource(1))
	w := wild()
	any := func() int { return w[r.Intn(len(w))] }
	files := [][]api.File{nil, three(nil), three([]byte("torn")), {file("nJ-1", headFrame(anew, h(1<<40-1, 0), 1<<40-1, 1<<40-1, 0))}, {file("nJ-1099511627775", headFrame(anew, h(3, 3), 4, 2, 0))}}
	for round := range 8000 {
		p := newPair(t, r, 1<<20)
		p.d, p.md = load(t, files[round%len(files)]...), load(t, files[round%len(files)]...)
		p.open("n", 256)
		for range 4 {
			hard := api.Hard{Term: any(), Vote: any()}
			if r.Intn(2) == 0 {
				hard = p.m.hard
			}
			from, index, term := any(), any(), any()
			switch r.Intn(3) {
			case 0:
				from = p.m.last().Index + 1
			case 1:
				index, term = p.m.last().Index, p.m.hard.Term
			}
			l := []api.LogEntry{{Index: from, Term: any()}, {Index: any(), Term: any(), Data: []byte("d")}}[:r.Intn(3)]
			p.answered("Save", p.j.Save(hard, from, l...), p.m.save(hard, from, l...))
			p.answered("Reset", p.j.Reset(hard, index, term), p.m.reset(hard, index, term))
			p.answered("Trim", p.j.Trim(index), p.m.trim(index))
			p.j.Entries(any(), any())
			p.j.Term(any())
			p.open("n", any())
		}
	}
}

// 17.11: whatever lies on the disk, Open ends, and what it opens goes on.
func TestWhateverLiesThere(t *testing.T) {
	t.Parallel()
	r := rand.New(rand.NewSource(2))
	count := map[api.Errno]int{}
	for range 6000 {
		var files []api.File
		for i := range r.Intn(4) {
			b := make([]byte, r.Intn(40))
			r.Read(b)
			if r.Intn(2) == 0 {
				for range r.Intn(3) {
					body := make([]byte, r.Intn(12))
					for k := range body {
						body[k] = byte(r.Intn(4))
					}
					if len(body) > 1 {
						body[0] = "HS"[r.Intn(2)]
					}
					b = append(frame(body), b[:r.Intn(len(b)+1)]...)
				}
				if r.Intn(2) == 0 {
					b = append(headFrame(byte(btoi(i == 0)), h(0, 0), 0, 0, i*r.Intn(40)), b...)
				}
			}
			files = append(files, file(fmt.Sprint("nJ-", i+1+r.Intn(6)/5*100), b))
		}
		p := newPair(t, r, 1<<20)
		d, err := disk.Load(1<<20, files...)
		if err != api.OK {
			continue
		}
		p.d = d
		p.md, _ = disk.Load(1<<20, files...)
		err = p.open("n", 256)
		count[err]++
		if err == api.OK {
			for range 5 {
				p.step()
			}
		}
	}
	if count[api.OK] < 500 || count[api.ErrJournal] < 500 {
		t.Error(count)
	}
}

// 17.11: very many entries told in few bytes, and very many records, are gone through in a moment.
func TestNothingTakesLong(t *testing.T) {
	begin := time.Now()
	b := headFrame(anew, h(1, 0), 0, 0, 0)
	one := recFrame(h(1, 0), 1, e(1, 1))
	d := load(t, file("nJ-1", b, bytes.Repeat(one, 50000)))
	mustSay(t, "many records", open(t, d, 256), h(1, 0), 0, 0, e(1, 1))
	_, err := journal.Open(load(t, file("nJ-1", b, frame(numbers([]byte{'S'}, 1, 0, 1, math.MaxInt)))), "n", 256)
	mustErr(t, "many entries told", err, api.ErrJournal)
	// A list that is far longer than a record is refused without its being written out.
	big := make([]byte, 98304)
	l := make([]api.LogEntry, 65536)
	for i := range l {
		l[i] = api.LogEntry{Index: 1 + i, Term: 1, Data: big}
	}
	d = newDisk(t, 1<<20)
	j := open(t, d, 256)
	mustErr(t, "far too long", j.Save(h(1, 0), 1, l...), api.ErrLong)
	if took := time.Since(begin); took > 20*time.Second {
		t.Error(took)
	}
}

// 17.11: two journals over two prefixes of one disk, of which none begins the other, have nothing in common but its room.
func TestTwoJournalsOnOneDisk(t *testing.T) {
	t.Parallel()
	for seed := range 60 {
		r := rand.New(rand.NewSource(int64(seed)))
		for _, names := range [][2]string{{"a", "b"}, {"n1.", "n12."}, {"t/J-1", "t/J-2"}, {"xJ", "xK"}, {strings.Repeat("p", 32), strings.Repeat("p", 31) + "q"}} {
			twoJournals(t, r, names)
		}
	}
}

// twoJournals: what one of them does on the common disk, with crashes, is what a disk of its own would hold of it.
func twoJournals(t *testing.T, r *rand.Rand, names [2]string) {
	t.Helper()
	d := newDisk(t, 1<<20)
	var alone [2]*model
	var both [2]*journal.Journal
	reopen := func() {
		for i, name := range names {
			j, err := journal.Open(d, name, 256)
			mustErr(t, "Open", err, api.OK)
			if was := alone[i]; was != nil {
				mustSay(t, name, j, was.hard, was.base.Index, was.base.Term, was.list...)
				if j.Segments() != len(was.nums) {
					t.Fatalf("%s: %d segments, want %d", name, j.Segments(), len(was.nums))
				}
			}
			both[i] = j
		}
	}
	reopen()
	for i, name := range names {
		md := newDisk(t, 1<<20)
		alone[i], _ = openModel(md, name, 256)
	}
	for range 40 {
		i := r.Intn(2)
		m, j := alone[i], both[i]
		last := m.last().Index
		term := m.hard.Term + r.Intn(2)
		term = max(term, 1)
		hard := api.Hard{Term: term, Vote: 0}
		switch r.Intn(6) {
		case 0:
			to := m.base.Index + r.Intn(len(m.list)+1)
			mustErr(t, "Trim", j.Trim(to), m.trim(to))
		case 1:
			mustErr(t, "Reset", j.Reset(hard, last+1, term), m.reset(hard, last+1, term))
		case 2:
			d.Crash()
			reopen()
		default:
			x := api.LogEntry{Index: last + 1, Term: term, Data: make([]byte, r.Intn(99))}
			mustErr(t, "Save", j.Save(hard, last+1, x), m.save(hard, last+1, x))
		}
		for k, name := range names {
			mustSay(t, name, both[k], alone[k].hard, alone[k].base.Index, alone[k].base.Term, alone[k].list...)
			var own []api.File
			for _, f := range d.Files() {
				if strings.HasPrefix(f.Name, name) {
					own = append(own, f)
				}
			}
			if !sameFiles(own, alone[k].d.Files()) {
				t.Fatalf("%s: on the common disk\n%s", name, told(d))
			}
		}
	}
}
