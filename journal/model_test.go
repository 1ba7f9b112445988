package journal_test

import (
	"bytes"
	"encoding/binary"
	"fmt"
	"hash/crc32"
	"regexp"
	"slices"
	"sort"
	"strconv"
	"testing"

	"strata/api"
	"strata/disk"
	"strata/journal"
)

// model tells the chapter's words a second time, over a disk of its own. What it reads it goes over in whole lists, what it writes it does act by act.
type model struct {
	d      *disk.Disk
	prefix string
	limit  int
	down   bool

	hard api.Hard
	base api.LogEntry // index and term
	list []api.LogEntry

	nums  []int // of the row
	whole int   // bytes of the last one that count
	torn  bool
}

const (
	anew  = 1
	along = 0
)

func frame(body []byte) []byte {
	table := crc32.MakeTable(crc32.Castagnoli)
	out := binary.BigEndian.AppendUint32(nil, uint32(len(body)))
	out = binary.LittleEndian.AppendUint32(out, crc32.Checksum(out, table))
	out = append(out, body...)
	return binary.LittleEndian.AppendUint32(out, crc32.Checksum(body, table))
}

func numbers(out []byte, l ...int) []byte {
	for _, n := range l {
		out = binary.AppendUvarint(out, uint64(n))
	}
	return out
}

func headBody(kind byte, h api.Hard, base, term, part int) []byte {
	return numbers([]byte{0x48, kind}, h.Term, h.Vote, base, term, part)
}

func recordBody(h api.Hard, from int, l ...api.LogEntry) []byte {
	out := numbers([]byte{0x53}, h.Term, h.Vote, from, len(l))
	for _, e := range l {
		out = numbers(out, e.Term, len(e.Data))
		out = append(out, e.Data...)
	}
	return out
}

// frames: the bodies of all frames from the beginning on, and where each ends; torn: a torn tail is behind them; bad: something else.
func frames(b []byte) (bodies [][]byte, ends []int, torn, bad bool) {
	table := crc32.MakeTable(crc32.Castagnoli)
	for at := 0; at < len(b); {
		left := b[at:]
		if len(left) < 8 {
			return bodies, ends, true, false
		}
		n := int(binary.BigEndian.Uint32(left))
		if crc32.Checksum(left[:4], table) != binary.LittleEndian.Uint32(left[4:]) || n > 1048576 {
			return bodies, ends, false, true
		}
		if len(left) < n+12 {
			return bodies, ends, true, false
		}
		body := left[8 : 8+n]
		if crc32.Checksum(body, table) != binary.LittleEndian.Uint32(left[8+n:]) {
			return bodies, ends, false, true
		}
		at += n + 12
		bodies, ends = append(bodies, body), append(ends, at)
	}
	return bodies, ends, false, false
}

// cutNumbers takes so many numbers off the left of b; nil: they are not there. What is read must be written just so.
func cutNumbers(b []byte, count int) (l []int, left []byte) {
	for range count {
		v, n := binary.Uvarint(b)
		if n <= 0 || int(v) < 0 || !bytes.HasPrefix(b, binary.AppendUvarint(nil, v)) || len(binary.AppendUvarint(nil, v)) != n {
			return nil, nil
		}
		l, b = append(l, int(v)), b[n:]
	}
	return l, b
}

// headIn: Term, Vote, index and term of the base, part; nil: it is no head of this kind.
func headIn(body []byte, kind byte) []int {
	if len(body) < 2 || body[0] != 0x48 || body[1] != kind {
		return nil
	}
	l, left := cutNumbers(body[2:], 5)
	if l == nil || len(left) > 0 {
		return nil
	}
	return l
}

func recordIn(body []byte) (h api.Hard, from int, l []api.LogEntry, is bool) {
	if len(body) < 1 || body[0] != 0x53 {
		return
	}
	n, left := cutNumbers(body[1:], 4)
	if n == nil {
		return
	}
	for i := 0; i < n[3]; i++ {
		x, rest := cutNumbers(left, 2)
		if x == nil || x[1] > len(rest) {
			return
		}
		l = append(l, api.LogEntry{Index: n[2] + i, Term: x[0], Data: bytes.Clone(rest[:x[1]])})
		left = rest[x[1]:]
	}
	return api.Hard{Term: n[0], Vote: n[1]}, n[2], l, len(left) == 0
}

// openModel: 17.1, 17.2.
func openModel(d *disk.Disk, prefix string, limit int) (*model, api.Errno) {
	switch {
	case d == nil:
		return nil, api.ErrArg
	case d.Down():
		return nil, api.ErrDown
	case len(prefix) > 32 || !regexp.MustCompile(`^[a-zA-Z0-9./_-]*$`).MatchString(prefix):
		return nil, api.ErrName
	case limit < 256 || limit > 1048576:
		return nil, api.ErrSegment
	}
	m := &model{d: d, prefix: prefix, limit: limit}
	all, held := m.segments()
	counts := all
	var unbegun []int
	if len(all) > 0 {
		last := all[len(all)-1]
		if bodies, _, _, bad := frames(held[last]); len(bodies) == 0 && !bad {
			counts, unbegun = all[:len(all)-1], all[len(all)-1:]
		}
	}
	first := -1
	for i, num := range counts {
		if bodies, _, _, _ := frames(held[num]); len(bodies) > 0 && len(bodies[0]) > 1 && bodies[0][0] == 0x48 && bodies[0][1] == anew {
			first = i
		}
	}
	if first < 0 && len(counts) > 0 {
		return nil, api.ErrJournal
	}
	ahead, row := counts[:max(first, 0)], counts[max(first, 0):]
	for i, num := range row {
		var next []byte
		if i+1 < len(row) {
			next = held[row[i+1]]
		}
		if i > 0 && num != row[i-1]+1 || !m.read(held[num], i == 0, i+1 == len(row), next) {
			return nil, api.ErrJournal
		}
		m.nums = append(m.nums, num)
	}
	gone := []string{prefix + "J.TMP"}
	for _, num := range slices.Concat(ahead, unbegun) {
		gone = append(gone, m.name(num))
	}
	for _, name := range gone {
		if err := d.Delete(name); err != api.OK && err != api.ErrNoFile {
			return nil, err
		}
	}
	return m, api.OK
}

func (m *model) name(num int) string { return fmt.Sprint(m.prefix, "J-", num) }

// segments: their numbers, rising, and their bytes.
func (m *model) segments() ([]int, map[int][]byte) {
	form := regexp.MustCompile("^" + regexp.QuoteMeta(m.prefix) + "J-([1-9][0-9]*)$")
	held := map[int][]byte{}
	var nums []int
	for _, f := range m.d.Files() {
		if x := form.FindStringSubmatch(f.Name); x != nil {
			if num, err := strconv.Atoi(x[1]); err == nil && num <= 1<<40 {
				nums = append(nums, num)
				held[num] = f.Data
			}
		}
	}
	slices.Sort(nums)
	return nums, held
}

// read: one segment of the row; next: the bytes of the one behind it.
func (m *model) read(b []byte, isFirst, isLast bool, next []byte) bool {
	bodies, ends, torn, bad := frames(b)
	if len(bodies) == 0 || isLast && bad {
		return false
	}
	if !isLast {
		following, _, _, _ := frames(next)
		if len(following) == 0 {
			return false
		}
		h := headIn(following[0], along)
		if h == nil || !slices.Contains(ends, h[4]) {
			return false
		}
		bodies = bodies[:slices.Index(ends, h[4])+1]
	}
	m.whole, m.torn = ends[len(bodies)-1], torn
	if isFirst {
		h := headIn(bodies[0], anew)
		if h == nil || h[0] > 1<<40 || h[1] > 7 || h[2] > 1<<40 || h[3] > h[0] || (h[2] == 0) != (h[3] == 0) || h[4] != 0 {
			return false
		}
		m.hard, m.base = api.Hard{Term: h[0], Vote: h[1]}, api.LogEntry{Index: h[2], Term: h[3]}
	} else {
		h := headIn(bodies[0], along)
		if h == nil || !slices.Equal(h[:4], []int{m.hard.Term, m.hard.Vote, m.base.Index, m.base.Term}) {
			return false
		}
	}
	for _, body := range bodies[1:] {
		h, from, l, is := recordIn(body)
		if !is || m.judge(h, from, l) != api.OK {
			return false
		}
		m.keep(h, from, l)
	}
	return true
}

// all: the base and all entries.
func (m *model) all() []api.LogEntry { return slices.Concat([]api.LogEntry{m.base}, m.list) }

func (m *model) last() api.LogEntry { return m.all()[len(m.list)] }

func (m *model) judgeHard(h api.Hard) api.Errno {
	old := m.hard
	if h.Term < 0 || h.Term > 1<<40 || h.Vote < 0 || h.Vote > 7 || h.Term < old.Term || h.Term == old.Term && old.Vote != 0 && old.Vote != h.Vote {
		return api.ErrHard
	}
	return api.OK
}

// judge: 2 to 5 of 17.4.
func (m *model) judge(h api.Hard, from int, l []api.LogEntry) api.Errno {
	if err := m.judgeHard(h); err != api.OK {
		return err
	}
	if from == 0 && len(l) > 0 || from != 0 && from <= m.base.Index || from != 0 && from > m.last().Index+1 {
		return api.ErrGap
	}
	stay := m.all()
	if from != 0 {
		stay = stay[:from-m.base.Index]
	}
	for i, e := range l {
		ahead := stay[len(stay)-1].Term
		if i > 0 {
			ahead = l[i-1].Term
		}
		if e.Index != from+i || e.Index > 1<<40 || e.Term < 1 || e.Term > 1<<40 || e.Term < ahead || e.Term > h.Term || len(e.Data) > 98304 {
			return api.ErrLogEntry
		}
	}
	if len(stay)-1+len(l) > 65536 || len(recordBody(h, from, l...)) > 1048576 {
		return api.ErrLong
	}
	return api.OK
}

func (m *model) keep(h api.Hard, from int, l []api.LogEntry) {
	if from != 0 {
		m.list = slices.Concat(m.list[:from-m.base.Index-1], clones(l))
	}
	m.hard = h
}

func clones(l []api.LogEntry) []api.LogEntry {
	var out []api.LogEntry
	for _, e := range l {
		out = append(out, api.LogEntry{Index: e.Index, Term: e.Term, Data: bytes.Clone(e.Data)})
	}
	return out
}

func (m *model) isDown() bool { return m.down || m.d.Down() }

// cut: an act's answer; from the first ErrDown on the journal is down.
func (m *model) cut(err api.Errno) api.Errno {
	if err == api.ErrDown {
		m.down = true
	}
	return err
}

// made: a file that is created, appended to once, and synced; refused, it is gone again.
func (m *model) made(name string, b []byte) api.Errno {
	if err := m.d.Create(name); err != api.OK {
		return m.cut(err)
	}
	if err := m.d.Append(name, b); err != api.OK {
		if err != api.ErrDown {
			m.cut(m.d.Delete(name))
			return api.ErrFull
		}
		return m.cut(err)
	}
	return m.cut(m.d.Sync(name))
}

func (m *model) stroke(num int, b []byte) api.Errno {
	if num > 1<<40 {
		return api.ErrFull
	}
	tmp := m.prefix + "J.TMP"
	if slices.Contains(m.d.List(""), tmp) {
		if err := m.d.Delete(tmp); err != api.OK {
			return m.cut(err)
		}
	}
	if err := m.made(tmp, b); err != api.OK {
		return err
	}
	return m.cut(m.d.Rename(tmp, m.name(num)))
}

func (m *model) next() int {
	if len(m.nums) == 0 {
		return 1
	}
	return m.nums[len(m.nums)-1] + 1
}

// save: 17.4.
func (m *model) save(h api.Hard, from int, l ...api.LogEntry) api.Errno {
	if m.isDown() {
		return api.ErrDown
	}
	if err := m.judge(h, from, l); err != api.OK {
		return err
	}
	if h == m.hard && from == 0 {
		return api.OK
	}
	record := frame(recordBody(h, from, l...))
	num := m.next()
	switch {
	case len(m.nums) == 0:
		b := append(frame(headBody(anew, api.Hard{}, 0, 0, 0)), record...)
		if err := m.stroke(1, b); err != api.OK {
			return err
		}
		m.nums, m.whole, m.torn = []int{1}, len(b), false
	case m.torn || m.whole >= m.limit:
		if num > 1<<40 {
			return api.ErrFull
		}
		b := append(frame(headBody(along, m.hard, m.base.Index, m.base.Term, m.whole)), record...)
		if err := m.made(m.name(num), b); err != api.OK {
			return err
		}
		m.nums, m.whole, m.torn = append(m.nums, num), len(b), false
	default:
		if err := m.d.Append(m.name(num-1), record); err != api.OK {
			return m.cut(err)
		}
		if err := m.d.Sync(m.name(num - 1)); err != api.OK {
			return m.cut(err)
		}
		m.whole += len(record)
	}
	m.keep(h, from, l)
	return api.OK
}

// trim: 17.5.
func (m *model) trim(to int) api.Errno {
	switch {
	case m.isDown():
		return api.ErrDown
	case to < m.base.Index || to > m.last().Index:
		return api.ErrTrim
	case to == m.base.Index:
		return api.OK
	}
	base := m.all()[to-m.base.Index]
	stay := m.list[to-m.base.Index:]
	b := frame(headBody(anew, m.hard, base.Index, base.Term, 0))
	for left := stay; len(left) > 0; {
		n := holds(m.hard, left)
		b = append(b, frame(recordBody(m.hard, left[0].Index, left[:n]...))...)
		left = left[n:]
	}
	return m.turn(b, m.hard, base, stay)
}

// holds: of how many entries the body is at most MaxFrame, going down from all by halves: longer lists have longer bodies.
func holds(h api.Hard, l []api.LogEntry) int {
	return sort.Search(len(l), func(n int) bool { return len(recordBody(h, l[0].Index, l[:n+1]...)) > 1048576 })
}

// reset: 17.6.
func (m *model) reset(h api.Hard, index, term int) api.Errno {
	if m.isDown() {
		return api.ErrDown
	}
	if err := m.judgeHard(h); err != api.OK {
		return err
	}
	if index < m.base.Index || index > 1<<40 || term < 0 || term > h.Term || term == 0 && index != 0 || term != 0 && index == 0 {
		return api.ErrTrim
	}
	return m.turn(frame(headBody(anew, h, index, term, 0)), h, api.LogEntry{Index: index, Term: term}, nil)
}

func (m *model) turn(b []byte, h api.Hard, base api.LogEntry, list []api.LogEntry) api.Errno {
	num, old := m.next(), m.nums
	if err := m.stroke(num, b); err != api.OK {
		return err
	}
	m.hard, m.base, m.list = h, api.LogEntry{Index: base.Index, Term: base.Term}, slices.Clone(list)
	m.nums, m.whole, m.torn = []int{num}, len(b), false
	for _, n := range old {
		if err := m.d.Delete(m.name(n)); err != api.OK {
			return m.cut(err)
		}
	}
	return api.OK
}

// same tells whether two lists of entries are the same.
func same(a, b []api.LogEntry) bool {
	return slices.EqualFunc(a, b, func(x, y api.LogEntry) bool {
		return x.Index == y.Index && x.Term == y.Term && bytes.Equal(x.Data, y.Data)
	})
}

// mustSay: 17.3: all that a journal tells is what these are.
func mustSay(t *testing.T, what string, j *journal.Journal, h api.Hard, base, term int, l ...api.LogEntry) {
	t.Helper()
	lastIndex, lastTerm := base, term
	if len(l) > 0 {
		lastIndex, lastTerm = l[len(l)-1].Index, l[len(l)-1].Term
	}
	if j.Hard() != h {
		t.Fatalf("%s: Hard %v, want %v", what, j.Hard(), h)
	}
	if i, n := j.Base(); i != base || n != term {
		t.Fatalf("%s: Base %d %d, want %d %d", what, i, n, base, term)
	}
	if i, n := j.Last(); i != lastIndex || n != lastTerm {
		t.Fatalf("%s: Last %d %d, want %d %d", what, i, n, lastIndex, lastTerm)
	}
	if got, err := j.Entries(base+1, lastIndex); err != api.OK || !same(got, l) {
		t.Fatalf("%s: Entries %d, %d of them, want %d", what, err, len(got), len(l))
	}
}

// mustBe: a journal and its disk are as the model and its disk are.
func mustBe(t *testing.T, what string, j *journal.Journal, d *disk.Disk, m *model) {
	t.Helper()
	mustSay(t, what, j, m.hard, m.base.Index, m.base.Term, m.list...)
	if j.Segments() != len(m.nums) {
		t.Fatalf("%s: %d segments, want %d", what, j.Segments(), len(m.nums))
	}
	mustHold(t, what, d, m.d)
}

// mustHold: two disks hold the same, and have come there by as many acts.
func mustHold(t *testing.T, what string, got, want *disk.Disk) {
	t.Helper()
	if got.Down() != want.Down() {
		t.Fatalf("%s: down %v, want %v", what, got.Down(), want.Down())
	}
	if !sameFiles(got.Files(), want.Files()) {
		t.Fatalf("%s: on the disk\n%s\nwant\n%s", what, told(got), told(want))
	}
	a, b := got.Counts(), want.Counts()
	a.Reads, b.Reads = 0, 0
	if a != b {
		t.Fatalf("%s: acts %+v, want %+v", what, a, b)
	}
}

func sameFiles(a, b []api.File) bool {
	return slices.EqualFunc(a, b, func(x, y api.File) bool {
		return x.Name == y.Name && x.Synced == y.Synced && bytes.Equal(x.Data, y.Data)
	})
}

func told(d *disk.Disk) string {
	out := ""
	for _, f := range d.Files() {
		out += fmt.Sprintf("%s: %x, %d synced\n", f.Name, f.Data[:min(len(f.Data), 200)], f.Synced)
	}
	return out
}
