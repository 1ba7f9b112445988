package journal_test

import (
	"bytes"
	"fmt"
	"math"
	"slices"
	"testing"

	"strata/api"
	"strata/disk"
	"strata/journal"
)

// change is a call that writes, from some beginning on.
type change struct {
	what   string
	start  []api.File // on the disk when the journal is opened
	stray  bool       // a file of a stroke lies there when the call comes
	do     func(j *journal.Journal) api.Errno
	behind func(s sayings) sayings
	acts   int // up to the one that makes it count
	after  int // Deletes behind it
	made   string
	count  int // segments behind it
}

// three: a row of three segments, of which the last may be torn.
func three(torn []byte) []api.File {
	first := slices.Concat(headFrame(anew, h(1, 0), 2, 1, 0), recFrame(h(1, 2), 3, e(3, 1), e(4, 1)))
	second := slices.Concat(headFrame(along, h(1, 2), 2, 1, len(first)), recFrame(h(2, 0), 4, e(4, 2), e(5, 2)))
	third := slices.Concat(headFrame(along, h(2, 0), 2, 1, len(second)), recFrame(h(3, 3), 6, e(6, 3)))
	return []api.File{file("nJ-4", first), file("nJ-5", second), file("nJ-6", third, torn)}
}

func changes() []change {
	save := func(j *journal.Journal) api.Errno {
		last, _ := j.Last()
		return j.Save(h(4, 1), last+1, e(last+1, 3), e(last+2, 4))
	}
	saved := func(s sayings) sayings {
		last := s.base + len(s.list)
		return sayings{h(4, 1), s.base, s.term, append(slices.Clone(s.list), e(last+1, 3), e(last+2, 4))}
	}
	trim := func(j *journal.Journal) api.Errno { return j.Trim(4) }
	trimmed := func(s sayings) sayings { return sayings{s.hard, 4, 2, s.list[2:]} }
	reset := func(j *journal.Journal) api.Errno { return j.Reset(h(9, 1), 20, 7) }
	wasReset := func(sayings) sayings { return sayings{h(9, 1), 20, 7, nil} }
	long := slices.Concat(headFrame(anew, h(1, 0), 2, 1, 0), recFrame(h(1, 2), 3, api.LogEntry{Index: 3, Term: 1, Data: make([]byte, 250)}))
	return []change{
		{"the first Save", nil, false, save, saved, 4, 0, "nJ.TMP", 1},
		{"the first Save, over a file of a stroke", nil, true, save, saved, 5, 0, "nJ.TMP", 1},
		{"a Save", three(nil), false, save, saved, 2, 0, "", 3},
		{"a Save behind the limit", []api.File{file("nJ-9", long)}, false, save, saved, 3, 0, "nJ-10", 2},
		{"a Save behind a torn tail", three([]byte("torn")), false, save, saved, 3, 0, "nJ-7", 4},
		{"a Trim", three(nil), false, trim, trimmed, 4, 3, "nJ.TMP", 1},
		{"a Trim, over a file of a stroke, of a torn tail", three([]byte("torn")), true, trim, trimmed, 5, 3, "nJ.TMP", 1},
		{"a Reset", three(nil), false, reset, wasReset, 4, 3, "nJ.TMP", 1},
		{"a Reset, over a file of a stroke", three(nil), true, reset, wasReset, 5, 3, "nJ.TMP", 1},
		{"a Reset of a new journal", nil, false, reset, wasReset, 4, 0, "nJ.TMP", 1},
	}
}

// begin: the journal that a change is done to, on a disk of this room.
func (c change) begin(t *testing.T, capacity int, more ...api.File) (*disk.Disk, *journal.Journal) {
	t.Helper()
	d, err := disk.Load(capacity, slices.Concat(c.start, more)...)
	mustErr(t, "Load", err, api.OK)
	j := open(t, d, 256)
	if c.stray {
		mustErr(t, "Create", d.Create("nJ.TMP"), api.OK)
		mustErr(t, "Append", d.Append("nJ.TMP", []byte("any")), api.OK)
	}
	return d, j
}

// mustBeDown: a down journal answers ErrDown ahead of all else, and goes on telling.
func mustBeDown(t *testing.T, what string, d *disk.Disk, j *journal.Journal, s sayings) {
	t.Helper()
	files := d.Files()
	for _, call := range []func() api.Errno{
		func() api.Errno { return j.Save(j.Hard(), 0) },
		func() api.Errno { return j.Save(h(1<<40, 1), 0) },
		func() api.Errno { return j.Save(h(-1, 99), -5, e(0, 0)) },
		func() api.Errno { i, _ := j.Base(); return j.Trim(i) },
		func() api.Errno { i, _ := j.Last(); return j.Trim(i) },
		func() api.Errno { return j.Trim(math.MinInt) },
		func() api.Errno { return j.Reset(h(1<<40, 1), 1<<40, 1) },
		func() api.Errno { return j.Reset(h(-1, 0), -1, -1) },
	} {
		mustErr(t, what, call(), api.ErrDown)
	}
	mustSay(t, what, j, s.hard, s.base, s.term, s.list...)
	if !sameFiles(d.Files(), files) {
		t.Fatalf("%s: a down journal has written", what)
	}
}

// 17.8, and a down journal: power fails at each act of each call that writes, and the tail is cut anywhere.
func TestPowerFails(t *testing.T) {
	for _, c := range changes() {
		for n := 1; n <= c.acts+c.after+1; n++ {
			longest := 0
			for cut := 0; cut <= longest; cut++ {
				what := fmt.Sprintf("%s, at act %d, %d bytes stay", c.what, n, cut)
				d, j := c.begin(t, 1<<20)
				old, count := saying(t, j), j.Segments()
				now := c.behind(old)
				d.Arm(n)
				err := c.do(j)
				switch {
				case n > c.acts+c.after:
					mustErr(t, what, err, api.OK)
					mustSay(t, what, j, now.hard, now.base, now.term, now.list...)
					count = c.count
				case n > c.acts:
					mustErr(t, what, err, api.ErrDown)
					mustBeDown(t, what, d, j, now)
					count = c.count
				default:
					mustErr(t, what, err, api.ErrDown)
					mustBeDown(t, what, d, j, old)
				}
				if j.Segments() != count {
					t.Fatalf("%s: %d segments, want %d", what, j.Segments(), count)
				}
				for _, f := range d.Files() {
					longest = max(longest, len(f.Data)-f.Synced)
				}
				d.Crash(cut)
				if n <= c.acts+c.after {
					// The disk is up again, but what it was cut off at stays.
					mustBeDown(t, what, d, j, saying(t, j))
				}
				k := open(t, d, 256)
				isWhole := cut == longest && longest > 0 && c.made != "nJ.TMP"
				if n > c.acts || isWhole {
					mustSay(t, what, k, now.hard, now.base, now.term, now.list...)
				} else {
					mustSay(t, what, k, old.hard, old.base, old.term, old.list...)
				}
				if n > c.acts && (k.Segments() != c.count || len(d.Files()) != c.count) {
					t.Fatalf("%s: left\n%s", what, told(d))
				}
				// And it goes on from there.
				last, _ := k.Last()
				mustErr(t, what, k.Save(h(50, 1), last+1, e(last+1, 50)), api.OK)
				mustErr(t, what, k.Trim(last+1), api.OK)
				mustSay(t, what, open(t, d, 256), h(50, 1), last+1, 50)
			}
		}
	}
}

// A disk that another one's act took down: the journal is down as long as it is, and tells what it told.
func TestDiskIsDown(t *testing.T) {
	c := changes()[2]
	d, j := c.begin(t, 1<<20, file("other"))
	was := saying(t, j)
	d.Arm(1)
	mustErr(t, "Sync", d.Sync("other"), api.ErrDown)
	mustBeDown(t, "down", d, j, was)
	_, err := journal.Open(d, "n", 256)
	mustErr(t, "Open", err, api.ErrDown)
}

// 17.7: with every room that is too small all is as before, and the journal goes on; power that fails at the Delete of what was created changes nothing of the answer.
func TestNoRoom(t *testing.T) {
	for _, c := range changes() {
		d, j := c.begin(t, 1<<20)
		used := 1<<20 - d.Free()
		if c.stray {
			used -= len("any")
		}
		d.Arm(c.acts)
		c.do(j)
		// At the act that would make it count all bytes are there.
		need := 1<<20 - d.Free() - used
		for room := max(0, 3*btoi(c.stray)); room <= need; room++ {
			what := fmt.Sprintf("%s, %d bytes of %d", c.what, room, need)
			d, j := c.begin(t, used+room)
			old, files, count := saying(t, j), d.Files(), j.Segments()
			err := c.do(j)
			if room == need {
				mustErr(t, what, err, api.OK)
				continue
			}
			mustErr(t, what, err, api.ErrFull)
			mustSay(t, what, j, old.hard, old.base, old.term, old.list...)
			files = slices.DeleteFunc(files, func(f api.File) bool { return f.Name == "nJ.TMP" })
			if !sameFiles(d.Files(), files) || j.Segments() != count {
				t.Fatalf("%s: left\n%s", what, told(d))
			}
			k := open(t, d, 256)
			mustSay(t, what, k, old.hard, old.base, old.term, old.list...)
			mustErr(t, what+", again", c.do(j), api.ErrFull)
			c.noRoomNoPower(t, what, used+room)
		}
	}
}

func btoi(b bool) int {
	if b {
		return 1
	}
	return 0
}

func (c change) noRoomNoPower(t *testing.T, what string, capacity int) {
	t.Helper()
	if c.made == "" {
		return
	}
	d, j := c.begin(t, capacity)
	old, count := saying(t, j), j.Segments()
	// A Create, ahead of it perhaps a Delete; the Append is refused, and no act; then the Delete.
	d.Arm(2 + btoi(c.stray))
	mustErr(t, what, c.do(j), api.ErrFull)
	if !d.Down() || !slices.Contains(d.List(""), c.made) || j.Segments() != count {
		t.Fatalf("%s: not where it should be:\n%s", what, told(d))
	}
	mustBeDown(t, what, d, j, old)
	d.Crash()
	mustBeDown(t, what, d, j, old)
	mustSay(t, what, open(t, d, 256), old.hard, old.base, old.term, old.list...)
	if slices.Contains(d.List(""), c.made) {
		t.Fatalf("%s: what was not begun is still there", what)
	}
}

// 17.4 to 17.7: with as many files as a disk may have none can be created.
func TestNoFiles(t *testing.T) {
	for _, c := range changes() {
		for free := range 2 {
			var more []api.File
			for i := range 256 - len(c.start) - free - btoi(c.stray) {
				more = append(more, file(fmt.Sprint("other", i)))
			}
			d, j := c.begin(t, 1<<20, more...)
			old, files := saying(t, j), d.Files()
			err := c.do(j)
			// A file of a stroke that goes makes room for the next one.
			if free > 0 || c.made == "" || c.stray {
				mustErr(t, c.what, err, api.OK)
				continue
			}
			mustErr(t, c.what, err, api.ErrFiles)
			mustSay(t, c.what, j, old.hard, old.base, old.term, old.list...)
			if !sameFiles(d.Files(), files) {
				t.Fatalf("%s: left\n%s", c.what, told(d))
			}
			mustErr(t, "Delete", d.Delete("other0"), api.OK)
			mustErr(t, c.what, c.do(j), api.OK)
		}
	}
}

// 17.9: each bit of each frame of a row is turned over, alone and with others near it: it is told, and all is left.
func TestBrokenMiddle(t *testing.T) {
	torn := recFrame(h(3, 3), 7, e(7, 3))[:15]
	files := three(torn)
	files = append(files, file("nJ-3", []byte("of an old row")), file("nJ.TMP", []byte("half made")))
	for _, name := range []string{"nJ-4", "nJ-5", "nJ-6"} {
		i := slices.IndexFunc(files, func(f api.File) bool { return f.Name == name })
		_, ends, _, _ := frames(files[i].Data)
		for bit := range 8 * ends[len(ends)-1] {
			for _, also := range [][]int{{}, {1}, {7, 13}, {3, 31}} {
				d := load(t, files...)
				mustErr(t, "Flip", d.Flip(name, bit), api.OK)
				for _, b := range also {
					d.Flip(name, bit+b)
				}
				was := d.Files()
				j, err := journal.Open(d, "n", 256)
				if err != api.ErrJournal || j != nil || !sameFiles(d.Files(), was) {
					t.Fatalf("%s, bit %d and %v: %d", name, bit, also, err)
				}
			}
		}
	}
}

// 17.9: what is turned over where nothing counts is not told: ahead of the row, in a middle one's torn tail, in the last bytes of a torn tail.
func TestBrokenWhereNothingCounts(t *testing.T) {
	torn := recFrame(h(3, 3), 7, e(7, 3))[:15]
	row := three(nil)
	end := len(row[1].Data)
	row[1] = file("nJ-5", row[1].Data, torn)
	row[2] = file("nJ-6", row[2].Data, torn)
	old := file("nJ-2", headFrame(anew, h(1, 1), 0, 0, 0))
	old2 := file("nJ-3", headFrame(along, h(1, 1), 0, 0, len(old.Data)))
	files := slices.Concat([]api.File{old, old2}, row)
	tail := len(row[2].Data) - len(torn)
	for _, c := range []struct {
		name     string
		from, to int
	}{{"nJ-2", 0, len(old.Data)}, {"nJ-3", 0, len(old2.Data)}, {"nJ-5", end, end + len(torn)}, {"nJ-6", tail + 8, tail + 15}} {
		for bit := 8 * c.from; bit < 8*c.to; bit++ {
			d := load(t, files...)
			mustErr(t, "Flip", d.Flip(c.name, bit), api.OK)
			mustSay(t, c.name, open(t, d, 256), h(3, 3), 2, 1, e(3, 1), e(4, 2), e(5, 2), e(6, 3))
		}
	}
}

// 17.10: opened again and again, also with other limits, a journal says the same, and nothing is written.
func TestOpeningTwice(t *testing.T) {
	for _, c := range changes() {
		d, j := c.begin(t, 1<<20)
		mustErr(t, c.what, c.do(j), api.OK)
		s := saying(t, j)
		files, count, acts := d.Files(), j.Segments(), d.Counts().Acts
		for _, limit := range []int{256, 1 << 20, 300} {
			k := open(t, d, limit)
			mustSay(t, c.what, k, s.hard, s.base, s.term, s.list...)
			if !sameFiles(d.Files(), files) || k.Segments() != count || d.Counts().Acts != acts {
				t.Errorf("%s: opening has changed something", c.what)
			}
		}
	}
}

// tail: how many bytes of the one file that is not synced are not.
func tail(d *disk.Disk) int {
	n := 0
	for _, f := range d.Files() {
		n += len(f.Data) - f.Synced
	}
	return n
}

// 17.8: one crash behind the other: every Save is cut off at its append, with any beginning of it left, and taken again; a row of many torn segments still says all.
func TestTornAgainAndAgain(t *testing.T) {
	d := newDisk(t, 1<<20)
	j := open(t, d, 256)
	var list []api.LogEntry
	hard := h(0, 0)
	for i := 1; i <= 40; i++ {
		x := api.LogEntry{Index: i, Term: i, Data: bytes.Repeat([]byte{byte(i)}, i)}
		for _, cut := range []int{0, 1, 7, 8, 19, 20, 21, 22, 30} {
			d.Arm(1)
			mustErr(t, "Save", j.Save(h(i, 1+i%7), i, x), api.ErrDown)
			if d.Crash(min(cut, tail(d)-1)) == 0 {
				// That was the Create of a segment, which has not taken place.
				j = open(t, d, 256)
				d.Arm(2)
				mustErr(t, "Save", j.Save(h(i, 1+i%7), i, x), api.ErrDown)
				d.Crash(cut)
			}
			j = open(t, d, 256)
			mustSay(t, fmt.Sprint("torn at ", i, ", ", cut), j, hard, 0, 0, list...)
		}
		mustErr(t, "Save", j.Save(h(i, 1+i%7), i, x), api.OK)
		list, hard = append(list, x), j.Hard()
	}
	if j.Segments() < 60 {
		t.Error("only", j.Segments(), "segments")
	}
	mustSay(t, "all of it", open(t, d, 256), hard, 0, 0, list...)
	mustErr(t, "Trim", j.Trim(20), api.OK)
	mustSay(t, "behind it", open(t, d, 256), hard, 20, 20, list[20:]...)
	if len(d.Files()) != 1 {
		t.Error("left", d.List(""))
	}
}
