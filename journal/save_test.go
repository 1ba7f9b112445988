package journal_test

import (
	"bytes"
	"encoding/hex"
	"fmt"
	"math"
	"slices"
	"testing"

	"strata/api"
	"strata/disk"
	"strata/journal"
)

func newDisk(t *testing.T, capacity int) *disk.Disk {
	t.Helper()
	d, err := disk.New(capacity)
	mustErr(t, "New", err, api.OK)
	return d
}

// mustKeep: a call is refused with this, and changes nothing of what is said, or of what lies on the disk.
func mustKeep(t *testing.T, what string, d *disk.Disk, j *journal.Journal, call func() api.Errno, want api.Errno) {
	t.Helper()
	was, files, count, acts := saying(t, j), d.Files(), j.Segments(), d.Counts().Acts
	mustErr(t, what, call(), want)
	if !saying(t, j).is(was) || !sameFiles(d.Files(), files) || j.Segments() != count || want != api.ErrFull && d.Counts().Acts != acts {
		t.Fatalf("%s: something has changed", what)
	}
}

// The chapter's example, call by call.
func TestExample(t *testing.T) {
	d := newDisk(t, 1<<20)
	j := open(t, d, 256)
	if j.Segments() != 0 {
		t.Error("a new journal has a segment")
	}
	mustErr(t, "Save", j.Save(h(0, 0), 0), api.OK)
	if d.Counts().Acts != 0 {
		t.Error("nothing is written")
	}
	mustErr(t, "Save", j.Save(h(1, 2), 0), api.OK)
	for _, x := range []api.Hard{h(0, 2), h(1, 3), h(1, 0), h(1, 8)} {
		mustKeep(t, fmt.Sprint("Save ", x), d, j, func() api.Errno { return j.Save(x, 0) }, api.ErrHard)
	}
	mustErr(t, "Save", j.Save(h(1, 2), 1, e(1, 1), e(2, 1)), api.OK)
	mustSay(t, "Save", j, h(1, 2), 0, 0, e(1, 1), e(2, 1))
	mustKeep(t, "a gap", d, j, func() api.Errno { return j.Save(h(2, 0), 4, e(4, 2)) }, api.ErrGap)
	mustKeep(t, "an index", d, j, func() api.Errno { return j.Save(h(2, 0), 3, e(4, 2)) }, api.ErrLogEntry)
	mustKeep(t, "a term", d, j, func() api.Errno { return j.Save(h(2, 0), 3, e(3, 3)) }, api.ErrLogEntry)
	mustErr(t, "Save", j.Save(h(2, 0), 2, e(2, 2), e(3, 2)), api.OK)
	mustSay(t, "Save", j, h(2, 0), 0, 0, e(1, 1), e(2, 2), e(3, 2))
	mustErr(t, "Trim", j.Trim(2), api.OK)
	mustSay(t, "Trim", j, h(2, 0), 2, 2, e(3, 2))
	mustKeep(t, "Trim", d, j, func() api.Errno { return j.Trim(1) }, api.ErrTrim)
	mustKeep(t, "Trim", d, j, func() api.Errno { return j.Trim(4) }, api.ErrTrim)
	mustKeep(t, "Save", d, j, func() api.Errno { return j.Save(h(2, 0), 2, e(2, 2)) }, api.ErrGap)
	d.Arm(1)
	mustErr(t, "Save", j.Save(h(3, 1), 4, e(4, 3)), api.ErrDown)
	if d.Crash(5) != 1 {
		t.Error("there is no tail")
	}
	j = open(t, d, 256)
	mustSay(t, "behind the crash", j, h(2, 0), 2, 2, e(3, 2))
	mustErr(t, "Save", j.Save(h(3, 1), 4, e(4, 3)), api.OK)
	if j.Segments() != 2 {
		t.Error(j.Segments(), "segments")
	}
	mustErr(t, "Reset", j.Reset(h(3, 1), 9, 3), api.OK)
	mustSay(t, "Reset", j, h(3, 1), 9, 3)
	if j.Segments() != 1 {
		t.Error(j.Segments(), "segments")
	}
	mustKeep(t, "Reset", d, j, func() api.Errno { return j.Reset(h(3, 1), 8, 3) }, api.ErrTrim)
}

// 17.3: every place that may be asked for, and those around them.
func TestEntriesAndTerms(t *testing.T) {
	d := newDisk(t, 1<<20)
	j := open(t, d, 256)
	mustErr(t, "Reset", j.Reset(h(9, 0), 5, 3), api.OK)
	all := []api.LogEntry{{Index: 5, Term: 3}, e(6, 3), e(7, 4), {Index: 8, Term: 4}, e(9, 9)}
	mustErr(t, "Save", j.Save(h(9, 0), 6, all[1:]...), api.OK)
	odd := []int{math.MinInt, math.MinInt + 1, -1, 0, 3, 4, 5, 6, 7, 8, 9, 10, 11, math.MaxInt - 1, math.MaxInt}
	for _, from := range odd {
		for _, to := range odd {
			got, err := j.Entries(from, to)
			if from < 6 || to > 9 || to < 5 || from > to+1 {
				if err != api.ErrGap || got != nil {
					t.Errorf("Entries(%d, %d): %v %d", from, to, got, err)
				}
			} else if err != api.OK || !same(got, all[from-5:to-4]) {
				t.Errorf("Entries(%d, %d): %v %d", from, to, got, err)
			}
		}
		n, err := j.Term(from)
		if from < 5 || from > 9 {
			if n != 0 || err != api.ErrGap {
				t.Errorf("Term(%d): %d %d", from, n, err)
			}
		} else if n != all[from-5].Term || err != api.OK {
			t.Errorf("Term(%d): %d %d", from, n, err)
		}
	}
}

// 17.4: what is written, byte by byte and act by act.
func TestBytes(t *testing.T) {
	d := newDisk(t, 1<<20)
	j := open(t, d, 256)
	mustErr(t, "Save", j.Save(h(1, 2), 1, e(1, 1)), api.OK)
	// By hand: the frame of `H` 1 and five zeros, then that of `S`, 1, 2, from 1, one entry, of the term 1, one byte.
	head, record := "48010000000000", "53010201010101"+"64"
	b := d.Files()[0].Data
	if got := hex.EncodeToString(b[8:15]); got != head {
		t.Errorf("the head %s", got)
	}
	if got := hex.EncodeToString(b[19+8 : 19+8+8]); got != record {
		t.Errorf("the record %s", got)
	}
	if len(b) != 19+20 || d.Files()[0].Name != "nJ-1" {
		t.Errorf("%d bytes in %s", len(b), d.Files()[0].Name)
	}
	if c := d.Counts(); c != (api.DiskCounts{Acts: 4, Appends: 1, Syncs: 1, Renames: 1, Reads: c.Reads}) {
		t.Errorf("%+v", c)
	}
	want := [][]byte{slices.Concat(headFrame(anew, h(0, 0), 0, 0, 0), recFrame(h(1, 2), 1, e(1, 1)))}
	long := api.LogEntry{Index: 2, Term: 1, Data: make([]byte, 256-39-21)}
	for i, c := range []struct {
		h       api.Hard
		from    int
		l       []api.LogEntry
		segment int
	}{
		{h(1, 2), 2, nil, 0},                              // writes, though nothing changes
		{h(1, 2), 2, []api.LogEntry{long}, 0},             // longer than limit by one record
		{h(3, 0), 0, nil, 1},                              // so the next one is in the next segment
		{h(3, 4), 1, []api.LogEntry{e(1, 3), e(2, 3)}, 1}, //
		{h(1<<40, 7), 2, []api.LogEntry{e(2, 1<<40)}, 1},  //
	} {
		if c.segment == len(want) {
			k := len(want[c.segment-1])
			want = append(want, headFrame(along, j.Hard(), 0, 0, k))
		}
		acts := d.Counts()
		mustErr(t, "Save", j.Save(c.h, c.from, c.l...), api.OK)
		want[c.segment] = append(want[c.segment], recFrame(c.h, c.from, c.l...)...)
		files := d.Files()
		if len(files) != len(want) || j.Segments() != len(want) {
			t.Fatalf("%d: %d files", i, len(files))
		}
		for k, b := range want {
			if files[k].Name != fmt.Sprint("nJ-", k+1) || !bytes.Equal(files[k].Data, b) || files[k].Synced != len(b) {
				t.Errorf("%d: %s", i, told(d))
			}
		}
		if now := d.Counts(); now.Appends != acts.Appends+1 || now.Syncs != acts.Syncs+1 {
			t.Errorf("%d: %+v behind %+v", i, now, acts)
		}
	}
	mustKeep(t, "nothing new", d, j, func() api.Errno { return j.Save(h(1<<40, 7), 0) }, api.OK)
}

// 17.4: a segment whose bytes are one below the limit is appended to, one whose bytes are the limit is not.
func TestLimit(t *testing.T) {
	for _, limit := range []int{256, 300, 1 << 20} {
		for off := -1; off <= 1; off++ {
			d := newDisk(t, 1<<22)
			j := open(t, d, limit)
			mustErr(t, "Save", j.Save(h(1, 0), 0), api.OK)
			size := func() int { return len(d.Files()[0].Data) }
			for i := 1; size() < limit+off; i++ {
				left := limit + off - size()
				// A record of no data is 19 bytes, of one of less than 128 bytes 19 more than these.
				n := min(left-19, 90000)
				if left > 300 {
					n = min(n, left-200)
				} else if left > 120 {
					n = 50
				}
				if n > 127 {
					n -= 20
				}
				last, _ := j.Last()
				mustErr(t, "Save", j.Save(h(1, 0), last+1, api.LogEntry{Index: last + 1, Term: 1, Data: make([]byte, max(n, 0))}), api.OK)
				if i > 1000 {
					t.Fatal("no such size")
				}
			}
			if size() != limit+off || j.Segments() != 1 {
				t.Fatalf("limit %d: %d bytes, %d segments", limit, size(), j.Segments())
			}
			// Opened anew it must be counted as it was.
			for _, k := range []*journal.Journal{j, open(t, load(t, d.Files()...), limit)} {
				mustErr(t, "Save", k.Save(h(1, 1), 0), api.OK)
				if want := 1 + (off+1+1)/2; k.Segments() != want {
					t.Errorf("limit %d, %d bytes: %d segments, want %d", limit, limit+off, k.Segments(), want)
				}
			}
		}
	}
}

// 17.4: behind a torn tail of any length the next number's segment is begun, and its part leaves the tail out.
func TestBehindATornTail(t *testing.T) {
	first := slices.Concat(headFrame(anew, h(0, 0), 0, 0, 0), recFrame(h(1, 2), 1, e(1, 1)))
	torn := recFrame(h(2, 0), 2, e(2, 2))
	for cut := 1; cut < len(torn); cut++ {
		d := load(t, file("nJ-3", first, torn[:cut]))
		j := open(t, d, 1<<20)
		mustErr(t, "Save", j.Save(h(3, 1), 2, e(2, 3)), api.OK)
		want := []api.File{file("nJ-3", first, torn[:cut]), file("nJ-4", headFrame(along, h(1, 2), 0, 0, len(first)), recFrame(h(3, 1), 2, e(2, 3)))}
		if !sameFiles(d.Files(), want) || j.Segments() != 2 {
			t.Fatalf("cut %d:\n%s", cut, told(d))
		}
		mustErr(t, "Save", j.Save(h(3, 1), 3, e(3, 3)), api.OK)
		if j.Segments() != 2 {
			t.Errorf("a segment that is not torn is appended to")
		}
		mustSay(t, "opened anew", open(t, d, 256), h(3, 1), 0, 0, e(1, 1), e(2, 3), e(3, 3))
	}
}

// 17.4: each refusal, and which one comes first. Hard is 5 3, the base 10 4, the entries 11 of the term 4 and 12 of the term 5.
func TestSaveRefuses(t *testing.T) {
	d := newDisk(t, 1<<22)
	j := open(t, d, 256)
	mustErr(t, "Reset", j.Reset(h(5, 3), 10, 4), api.OK)
	mustErr(t, "Save", j.Save(h(5, 3), 11, e(11, 4), e(12, 5)), api.OK)
	data := func(i, n int) api.LogEntry { return api.LogEntry{Index: i, Term: 5, Data: make([]byte, n)} }
	var many []api.LogEntry
	for i := range 11 {
		many = append(many, data(13+i, 98304))
	}
	wrong := slices.Clone(many)
	wrong[10].Term = 6
	for _, c := range []struct {
		what string
		h    api.Hard
		from int
		l    []api.LogEntry
		want api.Errno
	}{
		{"term below", h(4, 3), 0, nil, api.ErrHard},
		{"term below 0", h(-1, 0), 0, nil, api.ErrHard},
		{"term far below", h(math.MinInt, 0), 0, nil, api.ErrHard},
		{"term too great", h(1<<40+1, 0), 0, nil, api.ErrHard},
		{"term far too great", h(math.MaxInt, 0), 0, nil, api.ErrHard},
		{"vote below 0", h(6, -1), 0, nil, api.ErrHard},
		{"vote too great", h(6, 8), 0, nil, api.ErrHard},
		{"another vote", h(5, 2), 0, nil, api.ErrHard},
		{"no vote any more", h(5, 0), 0, nil, api.ErrHard},
		{"hard ahead of gap", h(5, 0), 99, many, api.ErrHard},
		{"from 0, entries", h(5, 3), 0, []api.LogEntry{e(0, 5)}, api.ErrGap},
		{"from 0, wrong entries", h(5, 3), 0, []api.LogEntry{e(99, 99)}, api.ErrGap},
		{"from below 0", h(5, 3), -1, nil, api.ErrGap},
		{"from far below 0", h(5, 3), math.MinInt, nil, api.ErrGap},
		{"from the base", h(5, 3), 10, []api.LogEntry{e(10, 4)}, api.ErrGap},
		{"from the base, none", h(5, 3), 10, nil, api.ErrGap},
		{"from 1", h(5, 3), 1, nil, api.ErrGap},
		{"from above", h(5, 3), 14, []api.LogEntry{e(14, 5)}, api.ErrGap},
		{"from above, none", h(5, 3), 14, nil, api.ErrGap},
		{"from far above", h(5, 3), math.MaxInt, []api.LogEntry{e(math.MaxInt, 5)}, api.ErrGap},
		{"gap ahead of entry", h(5, 3), 14, wrong, api.ErrGap},
		{"index too great", h(5, 3), 13, []api.LogEntry{e(14, 5)}, api.ErrLogEntry},
		{"index too small", h(5, 3), 13, []api.LogEntry{e(12, 5)}, api.ErrLogEntry},
		{"the same index twice", h(5, 3), 12, []api.LogEntry{e(12, 5), e(12, 5)}, api.ErrLogEntry},
		{"a gap in the list", h(5, 3), 12, []api.LogEntry{e(12, 5), e(14, 5)}, api.ErrLogEntry},
		{"term below that ahead", h(5, 3), 13, []api.LogEntry{e(13, 4)}, api.ErrLogEntry},
		{"term below that ahead, in the list", h(6, 3), 13, []api.LogEntry{e(13, 6), e(14, 5)}, api.ErrLogEntry},
		{"term below base's", h(5, 3), 11, []api.LogEntry{e(11, 3)}, api.ErrLogEntry},
		{"term 0", h(5, 3), 11, []api.LogEntry{e(11, 0)}, api.ErrLogEntry},
		{"term below 0", h(5, 3), 11, []api.LogEntry{e(11, -1)}, api.ErrLogEntry},
		{"term above that of h", h(5, 3), 13, []api.LogEntry{e(13, 6)}, api.ErrLogEntry},
		{"term far above", h(1<<40, 3), 13, []api.LogEntry{e(13, 1<<40+1)}, api.ErrLogEntry},
		{"data too long", h(5, 3), 13, []api.LogEntry{data(13, 98305)}, api.ErrLogEntry},
		{"data too long, the second", h(5, 3), 13, []api.LogEntry{e(13, 5), data(14, 98305)}, api.ErrLogEntry},
		{"entry ahead of long", h(5, 3), 13, wrong, api.ErrLogEntry},
		{"record too long", h(5, 3), 13, many, api.ErrLong},
		{"record too long, another term", h(6, 0), 13, many, api.ErrLong},
		{"record too long, others taken away", h(5, 3), 13, many, api.ErrLong},
	} {
		mustKeep(t, c.what, d, j, func() api.Errno { return j.Save(c.h, c.from, c.l...) }, c.want)
	}
	mustErr(t, "what may be", j.Save(h(5, 3), 12, e(12, 4), e(13, 5), data(14, 98304)), api.OK)
	mustErr(t, "what may be", j.Save(h(6, 7), 13), api.OK)
	mustSay(t, "behind all", j, h(6, 7), 10, 4, e(11, 4), e(12, 4))
}

// 17.4: where there is no vote yet, one may be given in the same term; once. A vote in the term 0 is one, too.
func TestVotes(t *testing.T) {
	d := newDisk(t, 1<<20)
	j := open(t, d, 256)
	for _, c := range []struct {
		h    api.Hard
		want api.Errno
	}{{h(0, 7), api.OK}, {h(0, 0), api.ErrHard}, {h(0, 6), api.ErrHard}, {h(1, 0), api.OK}, {h(1, 3), api.OK}, {h(1, 3), api.OK}, {h(1, 1), api.ErrHard}, {h(9, 1), api.OK}, {h(1<<40, 0), api.OK}, {h(1<<40, 7), api.OK}} {
		mustErr(t, fmt.Sprint(c.h), j.Save(c.h, 0), c.want)
		if c.want == api.OK {
			mustSay(t, "Save", j, c.h, 0, 0)
		}
	}
	mustSay(t, "opened anew", open(t, d, 256), h(1<<40, 7), 0, 0)
}

// 17.4: up to MaxFrame bytes of a body, and not one more.
func TestLongestRecord(t *testing.T) {
	d := newDisk(t, 1<<23)
	j := open(t, d, 256)
	var l []api.LogEntry
	for i := range 11 {
		l = append(l, api.LogEntry{Index: 1 + i, Term: 2, Data: bytes.Repeat([]byte{byte(i)}, 95324)})
	}
	size := len(recordBody(h(2, 0), 1, l...))
	l[10].Data = l[10].Data[:95324-(size-1048576)]
	if len(recordBody(h(2, 0), 1, l...)) != 1048576 {
		t.Fatal("not the longest record")
	}
	more := slices.Clone(l)
	more[0].Data = append(bytes.Clone(l[0].Data), 1)
	mustKeep(t, "one byte more", d, j, func() api.Errno { return j.Save(h(2, 0), 1, more...) }, api.ErrLong)
	mustKeep(t, "a longer term", d, j, func() api.Errno { return j.Save(h(128, 0), 1, l...) }, api.ErrLong)
	mustErr(t, "the longest", j.Save(h(2, 0), 1, l...), api.OK)
	mustSay(t, "opened anew", open(t, d, 256), h(2, 0), 0, 0, l...)
	more[0].Data, more[10].Data = l[0].Data, append(bytes.Clone(l[10].Data), 1)
	mustKeep(t, "one byte more behind", d, j, func() api.Errno { return j.Save(h(2, 0), 1, more...) }, api.ErrLong)
	// The number of entries is of the body, too: 127 of them take one byte, 128 two.
	for _, n := range []int{127, 128} {
		what := fmt.Sprint(n, " of them")
		var few []api.LogEntry
		for i := range n {
			few = append(few, api.LogEntry{Index: 1 + i, Term: 2, Data: make([]byte, 8300)})
		}
		over := len(recordBody(h(2, 0), 1, few...)) - 1048576
		for i := range few {
			cut := min(over, 200)
			few[i].Data, over = few[i].Data[:8300-cut], over-cut
		}
		if len(recordBody(h(2, 0), 1, few...)) != 1048576 {
			t.Fatal("not the longest record of", n)
		}
		mustErr(t, what, j.Save(h(2, 0), 1, few...), api.OK)
		few[5].Data = make([]byte, len(few[5].Data)+1)
		mustKeep(t, what+", one byte more", d, j, func() api.Errno { return j.Save(h(2, 0), 1, few...) }, api.ErrLong)
	}
}

// 17.4: up to MaxLog entries, those that stay among them.
func TestFullLog(t *testing.T) {
	d := newDisk(t, 1<<23)
	j := open(t, d, 1<<20)
	var l []api.LogEntry
	for i := range 65537 {
		l = append(l, api.LogEntry{Index: 1 + i, Term: 1})
	}
	mustKeep(t, "too many at once", d, j, func() api.Errno { return j.Save(h(1, 0), 1, l...) }, api.ErrLong)
	mustErr(t, "as many as may be", j.Save(h(1, 0), 1, l[:65536]...), api.OK)
	mustKeep(t, "one more", d, j, func() api.Errno { return j.Save(h(1, 0), 65537, l[65536]) }, api.ErrLong)
	mustKeep(t, "one more, from the last on", d, j, func() api.Errno { return j.Save(h(1, 0), 65536, l[65535:]...) }, api.ErrLong)
	mustErr(t, "the last one anew", j.Save(h(1, 0), 65536, l[65535]), api.OK)
	mustErr(t, "none", j.Save(h(1, 0), 65537), api.OK)
	mustErr(t, "hard alone", j.Save(h(2, 1), 0), api.OK)
	mustErr(t, "Trim", j.Trim(1), api.OK)
	mustErr(t, "one more", j.Save(h(2, 1), 65537, l[65536]), api.OK)
	mustSay(t, "opened anew", open(t, d, 256), h(2, 1), 1, 1, l[1:]...)
}

// 17.4: the last index, behind which no entry may stand, but none may be taken away from there on.
func TestLastIndex(t *testing.T) {
	top := 1 << 40
	d := newDisk(t, 1<<20)
	j := open(t, d, 256)
	mustErr(t, "Reset", j.Reset(h(1<<40, 7), top-1, 1<<40), api.OK)
	mustKeep(t, "two", d, j, func() api.Errno { return j.Save(h(1<<40, 7), top, e(top, 1<<40), e(top+1, 1<<40)) }, api.ErrLogEntry)
	mustErr(t, "one", j.Save(h(1<<40, 7), top, e(top, 1<<40)), api.OK)
	mustKeep(t, "one more", d, j, func() api.Errno { return j.Save(h(1<<40, 7), top+1, e(top+1, 1<<40)) }, api.ErrLogEntry)
	mustKeep(t, "two above", d, j, func() api.Errno { return j.Save(h(1<<40, 7), top+2) }, api.ErrGap)
	mustErr(t, "none", j.Save(h(1<<40, 7), top+1), api.OK)
	mustSay(t, "opened anew", open(t, d, 256), h(1<<40, 7), top-1, 1<<40, e(top, 1<<40))
	mustErr(t, "Trim", j.Trim(top), api.OK)
	mustErr(t, "none", j.Save(h(1<<40, 7), top+1), api.OK)
	mustSay(t, "opened anew", open(t, d, 256), h(1<<40, 7), top, 1<<40)
	mustErr(t, "Reset", j.Reset(h(1<<40, 7), top, 1), api.OK)
	mustKeep(t, "Reset above", d, j, func() api.Errno { return j.Reset(h(1<<40, 7), top+1, 1) }, api.ErrTrim)
}

// 17.4 to 17.6: behind the last number there is none: ErrFull ahead of all acts, but where no new segment is needed.
func TestLastNumber(t *testing.T) {
	first := slices.Concat(headFrame(anew, h(0, 0), 0, 0, 0), recFrame(h(1, 0), 1, e(1, 1), e(2, 1)))
	tmp := file("nJ.TMP.NOT", []byte("x"))
	d := load(t, file("nJ-1099511627776", first), tmp)
	j := open(t, d, 256)
	full := func(what string, call func() api.Errno) {
		t.Helper()
		acts := d.Counts().Acts
		mustKeep(t, what, d, j, call, api.ErrFull)
		if d.Counts().Acts != acts {
			t.Errorf("%s: an act was done", what)
		}
	}
	full("Trim", func() api.Errno { return j.Trim(1) })
	full("Reset", func() api.Errno { return j.Reset(h(1, 0), 2, 1) })
	mustErr(t, "Trim of nothing", j.Trim(0), api.OK)
	mustKeep(t, "Trim", d, j, func() api.Errno { return j.Trim(3) }, api.ErrTrim)
	mustErr(t, "Save", j.Save(h(2, 0), 3, api.LogEntry{Index: 3, Term: 2, Data: make([]byte, 256)}), api.OK)
	full("Save behind the limit", func() api.Errno { return j.Save(h(2, 1), 0) })
	mustErr(t, "Save of nothing", j.Save(h(2, 0), 0), api.OK)
	mustKeep(t, "Save", d, j, func() api.Errno { return j.Save(h(2, 0), 9) }, api.ErrGap)
	d = load(t, file("nJ-1099511627776", first, []byte("torn")))
	j = open(t, d, 256)
	full("Save behind a torn tail", func() api.Errno { return j.Save(h(2, 0), 0) })
	d = load(t, file("nJ-1099511627775", first, []byte("torn")))
	j = open(t, d, 256)
	mustErr(t, "the last number", j.Save(h(2, 0), 0), api.OK)
	mustSay(t, "the last number", open(t, d, 256), h(2, 0), 0, 0, e(1, 1), e(2, 1))
	d = load(t, file("nJ-1099511627775", first))
	j = open(t, d, 256)
	mustErr(t, "the last number", j.Trim(1), api.OK)
	if !slices.Equal(d.List(""), []string{"nJ-1099511627776"}) {
		t.Error(d.List(""))
	}
}

// 17.5: to every index; the entries that stay are in as few records as can be, and all old segments go.
func TestTrim(t *testing.T) {
	list := []api.LogEntry{e(1, 1), e(2, 1), e(3, 2), e(4, 4), e(5, 4)}
	for to := -1; to <= 6; to++ {
		d := newDisk(t, 1<<20)
		j := open(t, d, 256)
		for i, x := range list {
			mustErr(t, "Save", j.Save(h(4, 1), x.Index, api.LogEntry{Index: x.Index, Term: x.Term, Data: bytes.Repeat([]byte("d"), 100*(i%2))}), api.OK)
		}
		for _, x := range list {
			mustErr(t, "Save", j.Save(h(4, 1), x.Index, x), api.OK)
		}
		mustErr(t, "Save", j.Save(h(5, 0), 0), api.OK)
		count := j.Segments()
		if count < 2 {
			t.Fatal("too few segments")
		}
		switch {
		case to < 0 || to > 5:
			mustKeep(t, "Trim", d, j, func() api.Errno { return j.Trim(to) }, api.ErrTrim)
			continue
		case to == 0:
			mustKeep(t, "Trim", d, j, func() api.Errno { return j.Trim(to) }, api.OK)
			continue
		}
		mustErr(t, "Trim", j.Trim(to), api.OK)
		want := headFrame(anew, h(5, 0), to, list[to-1].Term, 0)
		if to < 5 {
			want = append(want, recFrame(h(5, 0), to+1, list[to:]...)...)
		}
		if !sameFiles(d.Files(), []api.File{file(fmt.Sprint("nJ-", count+1), want)}) || j.Segments() != 1 {
			t.Errorf("to %d:\n%s", to, told(d))
		}
		mustSay(t, "Trim", j, h(5, 0), to, list[to-1].Term, list[to:]...)
		mustKeep(t, "Trim again", d, j, func() api.Errno { return j.Trim(to) }, api.OK)
		mustKeep(t, "Trim below", d, j, func() api.Errno { return j.Trim(to - 1) }, api.ErrTrim)
		for _, wild := range []int{math.MinInt, math.MaxInt} {
			mustKeep(t, "Trim", d, j, func() api.Errno { return j.Trim(wild) }, api.ErrTrim)
		}
		mustSay(t, "opened anew", open(t, d, 256), h(5, 0), to, list[to-1].Term, list[to:]...)
		mustErr(t, "Save", j.Save(h(5, 0), 6-min(1, 5-to), e(6-min(1, 5-to), 5)), api.OK)
	}
}

// 17.5: entries that are more than one record may hold are cut into records, each as long as may be.
func TestTrimOfMuch(t *testing.T) {
	t.Parallel()
	for _, sizes := range [][]int{{98304, 1, 0, 30000}, {8185, 8186, 8187, 8188}, {0}} {
		d := newDisk(t, 1<<25)
		md := newDisk(t, 1<<25)
		j := open(t, d, 1<<20)
		m, _ := openModel(md, "n", 1<<20)
		count := 300
		if len(sizes) == 1 && sizes[0] == 0 {
			count = 20000
		}
		for i := 1; i <= count; i++ {
			var l []api.LogEntry
			for range min(10, count-i+1) {
				l = append(l, api.LogEntry{Index: i + len(l), Term: 3, Data: bytes.Repeat([]byte{byte(i)}, sizes[(i+len(l))%len(sizes)])})
			}
			mustErr(t, "Save", j.Save(h(3, 0), i, l...), m.save(h(3, 0), i, l...))
			i += len(l) - 1
		}
		for _, to := range []int{1, 7, count} {
			mustErr(t, "Trim", j.Trim(to), m.trim(to))
			mustBe(t, "Trim", j, d, m)
		}
	}
}

// 17.5: what no disk could hold has no room on this one. A segment that fills the greatest disk has records of a short term, and then one of a long term, which each new record must tell.
func TestTrimOfMoreThanADisk(t *testing.T) {
	t.Parallel()
	const capacity = 67108864
	b := slices.Concat(headFrame(anew, h(0, 0), 0, 0, 0), recFrame(h(1, 0), 1, api.LogEntry{Index: 1, Term: 1}))
	last := recFrame(h(1<<40, 0), 0)
	next := 2
	for {
		var l []api.LogEntry
		for range 10 {
			l = append(l, api.LogEntry{Index: next + len(l), Term: 1, Data: make([]byte, 98304)})
		}
		record := recFrame(h(1, 0), next, l...)
		if len(b)+len(record)+len(last) > capacity {
			break
		}
		b = append(b, record...)
		next += len(l)
	}
	for {
		left := capacity - len(b) - len(last) - 25
		if left < 0 {
			break
		}
		b = append(b, recFrame(h(1, 0), next, api.LogEntry{Index: next, Term: 1, Data: make([]byte, min(left, 98304))})...)
		next++
	}
	b = append(b, last...)
	if len(b) > capacity || len(b) < capacity-200 {
		t.Fatal(len(b))
	}
	d := load(t, file("nJ-1", b))
	j := open(t, d, 256)
	mustKeep(t, "Trim", d, j, func() api.Errno { return j.Trim(1) }, api.ErrFull)
	mustErr(t, "Reset", j.Reset(h(1<<40, 0), 9, 1), api.ErrFull)
	if d.Free() != capacity-len(b) || j.Segments() != 1 {
		t.Error("something is left")
	}
}

// 17.6: each refusal, in its order; and what a Reset leaves. Hard is 5 3, the base 10 4, one entry.
func TestReset(t *testing.T) {
	begin := func() (*disk.Disk, *journal.Journal) {
		d := newDisk(t, 1<<20)
		j := open(t, d, 256)
		mustErr(t, "Reset", j.Reset(h(5, 3), 10, 4), api.OK)
		mustErr(t, "Save", j.Save(h(5, 3), 11, e(11, 4)), api.OK)
		return d, j
	}
	for _, c := range []struct {
		h           api.Hard
		index, term int
		want        api.Errno
	}{
		{h(4, 3), 12, 4, api.ErrHard}, {h(5, 0), 9, 4, api.ErrHard}, {h(5, 2), 12, 99, api.ErrHard}, {h(6, 8), 12, 4, api.ErrHard}, {h(6, -1), 12, 4, api.ErrHard}, {h(1<<40+1, 0), 12, 4, api.ErrHard}, {h(-1, 0), -1, -1, api.ErrHard},
		{h(5, 3), 9, 4, api.ErrTrim}, {h(5, 3), 0, 0, api.ErrTrim}, {h(5, 3), -1, 4, api.ErrTrim}, {h(5, 3), 1<<40 + 1, 4, api.ErrTrim}, {h(5, 3), math.MaxInt, 4, api.ErrTrim}, {h(5, 3), math.MinInt, 4, api.ErrTrim},
		{h(5, 3), 12, -1, api.ErrTrim}, {h(5, 3), 12, 0, api.ErrTrim}, {h(5, 3), 12, 6, api.ErrTrim}, {h(6, 0), 12, 7, api.ErrTrim}, {h(5, 3), 12, math.MinInt, api.ErrTrim}, {h(5, 3), 12, math.MaxInt, api.ErrTrim},
		{h(5, 3), 10, 4, api.OK}, {h(5, 3), 10, 1, api.OK}, {h(5, 3), 10, 5, api.OK}, {h(5, 3), 11, 4, api.OK}, {h(5, 3), 12, 1, api.OK}, {h(6, 0), 12, 6, api.OK}, {h(1<<40, 7), 1 << 40, 1 << 40, api.OK}, {h(9, 1), 99, 3, api.OK},
	} {
		d, j := begin()
		what := fmt.Sprint("Reset ", c.h, c.index, c.term)
		call := func() api.Errno { return j.Reset(c.h, c.index, c.term) }
		if c.want != api.OK {
			mustKeep(t, what, d, j, call, c.want)
			continue
		}
		mustErr(t, what, call(), api.OK)
		mustSay(t, what, j, c.h, c.index, c.term)
		if !sameFiles(d.Files(), []api.File{file("nJ-2", headFrame(anew, c.h, c.index, c.term, 0))}) || j.Segments() != 1 {
			t.Errorf("%s:\n%s", what, told(d))
		}
		mustSay(t, "opened anew", open(t, d, 256), c.h, c.index, c.term)
	}
}

// 17.6: of a new journal, too; with the index 0 the term must be 0.
func TestResetOfNothing(t *testing.T) {
	for _, c := range []struct {
		index, term int
		want        api.Errno
	}{{0, 0, api.OK}, {0, 1, api.ErrTrim}, {1, 0, api.ErrTrim}, {1, 1, api.OK}, {-1, 0, api.ErrTrim}} {
		d := newDisk(t, 1<<20)
		j := open(t, d, 256)
		if c.want != api.OK {
			mustKeep(t, "Reset", d, j, func() api.Errno { return j.Reset(h(2, 2), c.index, c.term) }, c.want)
			continue
		}
		mustErr(t, "Reset", j.Reset(h(2, 2), c.index, c.term), api.OK)
		mustSay(t, "Reset", j, h(2, 2), c.index, c.term)
		if !sameFiles(d.Files(), []api.File{file("nJ-1", headFrame(anew, h(2, 2), c.index, c.term, 0))}) || j.Segments() != 1 {
			t.Errorf("left\n%s", told(d))
		}
	}
	// A Trim of a new journal can be to 0 alone, and does nothing.
	d := newDisk(t, 1<<20)
	j := open(t, d, 256)
	mustKeep(t, "Trim", d, j, func() api.Errno { return j.Trim(0) }, api.OK)
	mustKeep(t, "Trim", d, j, func() api.Errno { return j.Trim(1) }, api.ErrTrim)
	mustKeep(t, "Trim", d, j, func() api.Errno { return j.Trim(-1) }, api.ErrTrim)
}
