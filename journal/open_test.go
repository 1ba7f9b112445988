package journal_test

import (
	"bytes"
	"fmt"
	"math/rand"
	"slices"
	"strings"
	"testing"

	"strata/api"
	"strata/disk"
	"strata/journal"
)

func e(i, t int) api.LogEntry { return api.LogEntry{Index: i, Term: t, Data: []byte("d")} }

func h(t, v int) api.Hard { return api.Hard{Term: t, Vote: v} }

// file is one whose bytes, parts joined, are synced.
func file(name string, parts ...[]byte) api.File {
	b := slices.Concat(parts...)
	return api.File{Name: name, Data: b, Synced: len(b)}
}

func load(t *testing.T, files ...api.File) *disk.Disk {
	t.Helper()
	d, err := disk.Load(1<<26, files...)
	if err != api.OK {
		t.Fatal(err)
	}
	return d
}

func open(t *testing.T, d *disk.Disk, limit int) *journal.Journal {
	t.Helper()
	j, err := journal.Open(d, "n", limit)
	if err != api.OK {
		t.Fatalf("Open: %d, of\n%s", err, told(d))
	}
	return j
}

func mustErr(t *testing.T, what string, got, want api.Errno) {
	t.Helper()
	if got != want {
		t.Fatalf("%s: %d, want %d", what, got, want)
	}
}

// headFrame, recFrame: parts of a segment.
func headFrame(kind byte, hard api.Hard, base, term, part int) []byte {
	return frame(headBody(kind, hard, base, term, part))
}

func recFrame(hard api.Hard, from int, l ...api.LogEntry) []byte {
	return frame(recordBody(hard, from, l...))
}

// 17.2: what Open asks, in its order.
func TestOpenRefuses(t *testing.T) {
	up, _ := disk.New(1000)
	down, _ := disk.New(1000)
	down.Create("x")
	down.Arm(1)
	down.Sync("x")
	broken, _ := disk.Load(1000, file("nJ-1", []byte("no frame at all")))
	long := strings.Repeat("p", 32)
	for _, c := range []struct {
		what   string
		d      *disk.Disk
		prefix string
		limit  int
		want   api.Errno
	}{
		{"no disk", nil, "a b", 1, api.ErrArg},
		{"no disk", nil, "n", 256, api.ErrArg},
		{"down", down, "a b", 1, api.ErrDown},
		{"down", down, "n", 256, api.ErrDown},
		{"no name", up, "a b", 255, api.ErrName},
		{"no name", up, "ä", 256, api.ErrName},
		{"no name", up, "n\x00", 256, api.ErrName},
		{"long prefix", up, long + "p", 0, api.ErrName},
		{"long prefix", up, strings.Repeat("p", 1000), 256, api.ErrName},
		{"limit", up, "n", 255, api.ErrSegment},
		{"limit", up, "n", 1<<20 + 1, api.ErrSegment},
		{"limit", up, "n", 0, api.ErrSegment},
		{"limit", up, "n", -256, api.ErrSegment},
		{"limit ahead of the row", broken, "n", 255, api.ErrSegment},
		{"row", broken, "n", 256, api.ErrJournal},
		{"least limit", up, "n", 256, api.OK},
		{"most limit", up, "n", 1 << 20, api.OK},
		{"no prefix", up, "", 256, api.OK},
		{"longest prefix", up, long, 256, api.OK},
		{"all that a name may have", up, "aZ09.-_/", 256, api.OK},
		{"another's segment", broken, "m", 256, api.OK},
	} {
		j, err := journal.Open(c.d, c.prefix, c.limit)
		mustErr(t, c.what, err, c.want)
		if (j == nil) != (err != api.OK) {
			t.Errorf("%s: %v beside %d", c.what, j, err)
		}
		if err == api.OK {
			mustSay(t, c.what, j, h(0, 0), 0, 0)
		}
	}
	if up.Counts().Acts != 0 || broken.Counts().Acts != 0 || down.Counts().Acts != 1 {
		t.Error("Open wrote something")
	}
}

// 17.1, 17.2: a new journal; the file of a stroke and a single segment that is not begun go, and all that has no segment's name stays.
func TestOpenOfNothing(t *testing.T) {
	other := []api.File{
		file("J-1", []byte("x")), file("J.TMP", []byte("x")), file("mJ-1", []byte("x")), file("nJ-"), file("nJ-0"), file("nJ-00"), file("nJ-01", []byte("x")),
		file("nJ-1.TMP"), file("nJ-1099511627777", []byte("x")), file("nJ-99999999999999999999", []byte("x")), file("nJ--1"), file("nJ-1a"), file("nJ-x"), file("nJ.TMP2"), file("nJ"), file("nRUN-1"), file("n"),
	}
	begun := headFrame(anew, h(0, 0), 0, 0, 0)
	for _, c := range []struct {
		what string
		more []api.File
		acts int
	}{
		{"nothing", nil, 0},
		{"a file of a stroke", []api.File{file("nJ.TMP", []byte("any"))}, 1},
		{"a segment without a byte", []api.File{file("nJ-1")}, 1},
		{"a head that is cut off", []api.File{file("nJ-7", begun[:len(begun)-1])}, 1},
		{"a head that is cut off, the last number", []api.File{file("nJ-1099511627776", begun[:9])}, 1},
		{"seven bytes that are none of a frame", []api.File{file("nJ-2", []byte("1234567"))}, 1},
		{"both", []api.File{file("nJ.TMP", begun), file("nJ-3", begun[:7])}, 2},
	} {
		d := load(t, slices.Concat(other, c.more)...)
		j := open(t, d, 256)
		mustSay(t, c.what, j, h(0, 0), 0, 0)
		if j.Segments() != 0 || d.Counts().Acts != c.acts || d.Counts().Deletes != c.acts {
			t.Errorf("%s: %d segments, %+v", c.what, j.Segments(), d.Counts())
		}
		if want := load(t, other...); !sameFiles(d.Files(), want.Files()) {
			t.Errorf("%s: left\n%s", c.what, told(d))
		}
		mustErr(t, c.what, j.Save(h(1, 1), 1, e(1, 1)), api.OK)
		if f := d.List("nJ-1"); !slices.Contains(f, "nJ-1") {
			t.Errorf("%s: the first segment has another number than 1: %v", c.what, f)
		}
	}
}

// spoiltRow is segments by their numbers, and what they say: nothing, if the row is not right.
type spoiltRow struct {
	what  string
	files []api.File
	says  *sayings
	stay  []string // names that Open leaves, if it is not all
	count int
}

func right(hard api.Hard, base, term int, l ...api.LogEntry) *sayings {
	return &sayings{hard, base, term, l}
}

// rows: 17.1, clause by clause.
func rows() []spoiltRow {
	first := headFrame(anew, h(0, 0), 0, 0, 0)
	one := recFrame(h(1, 2), 1, e(1, 1))
	two := recFrame(h(2, 0), 2, e(2, 2))
	seg1 := slices.Concat(first, one)
	on := func(hard api.Hard, base, term, part int) []byte { return headFrame(along, hard, base, term, part) }
	goes := on(h(1, 2), 0, 0, len(seg1))
	later := headFrame(anew, h(5, 1), 9, 4, 0)
	is1, is2 := right(h(1, 2), 0, 0, e(1, 1)), right(h(2, 0), 0, 0, e(1, 1), e(2, 2))
	is9 := right(h(5, 1), 9, 4)
	return []spoiltRow{
		{"a head alone", []api.File{file("nJ-1", first)}, right(h(0, 0), 0, 0), nil, 1},
		{"a head with a base", []api.File{file("nJ-4", later)}, is9, nil, 1},
		{"a head and a record", []api.File{file("nJ-1", seg1)}, is1, nil, 1},
		{"the last number", []api.File{file("nJ-1099511627776", seg1)}, is1, nil, 1},
		{"two records", []api.File{file("nJ-3", seg1, two)}, is2, nil, 1},
		{"a segment that goes on", []api.File{file("nJ-1", seg1), file("nJ-2", goes, two)}, is2, nil, 2},
		{"9 goes on with 10", []api.File{file("nJ-9", seg1), file("nJ-10", goes, two)}, is2, nil, 2},
		{"a head alone that goes on", []api.File{file("nJ-1", seg1), file("nJ-2", goes)}, is1, nil, 2},
		{"three in a row", []api.File{file("nJ-1", seg1), file("nJ-2", goes), file("nJ-3", on(h(1, 2), 0, 0, len(goes)), two)}, is2, nil, 3},
		{"a part of the head alone", []api.File{file("nJ-1", seg1), file("nJ-2", on(h(0, 0), 0, 0, len(first)))}, right(h(0, 0), 0, 0), nil, 2},
		{"bytes behind the part do not count", []api.File{file("nJ-1", seg1, two), file("nJ-2", goes)}, is1, nil, 2},
		{"broken ones neither", []api.File{file("nJ-1", seg1, []byte("nothing that is a frame")), file("nJ-2", goes, two)}, is2, nil, 2},
		{"a torn tail in the middle", []api.File{file("nJ-1", seg1, two[:20]), file("nJ-2", goes, two)}, is2, nil, 2},
		{"a torn tail", []api.File{file("nJ-1", seg1, two[:len(two)-1])}, is1, nil, 1},
		{"a torn tail of one byte", []api.File{file("nJ-1", seg1, []byte{9})}, is1, nil, 1},
		{"a torn tail behind the head", []api.File{file("nJ-1", seg1), file("nJ-2", goes, two[:8])}, is1, nil, 2},
		{"a torn tail that is no record's beginning", []api.File{file("nJ-1", seg1, []byte("1234567"))}, is1, nil, 1},
		{"one that is not begun", []api.File{file("nJ-1", seg1), file("nJ-2", goes[:len(goes)-1])}, is1, []string{"nJ-1"}, 1},
		{"one without a byte", []api.File{file("nJ-1", seg1, two), file("nJ-2")}, is2, []string{"nJ-1"}, 1},
		{"one that is not begun, of any number", []api.File{file("nJ-1", seg1), file("nJ-77", goes[:9])}, is1, []string{"nJ-1"}, 1},
		{"not begun behind a torn tail", []api.File{file("nJ-1", seg1, two[:9]), file("nJ-2", goes[:9])}, is1, []string{"nJ-1"}, 1},
		{"an old row ahead", []api.File{file("nJ-1", seg1), file("nJ-2", goes, two), file("nJ-3", later)}, is9, []string{"nJ-3"}, 1},
		{"the rest of an old row", []api.File{file("nJ-2", goes, two), file("nJ-3", later)}, is9, []string{"nJ-3"}, 1},
		{"anything ahead", []api.File{file("nJ-1"), file("nJ-5", []byte("nothing that is a frame")), file("nJ-9", later), file("nJ-10", on(h(5, 1), 9, 4, len(later)))}, is9, []string{"nJ-10", "nJ-9"}, 2},
		{"all that does not count", []api.File{file("nJ-1", seg1), file("nJ-3", later), file("nJ-4", goes[:3]), file("nJ.TMP", seg1)}, is9, []string{"nJ-3"}, 1},

		{"no frame", []api.File{file("nJ-1", []byte("nothing that is a frame"))}, nil, nil, 0},
		{"none that begins anew", []api.File{file("nJ-1", on(h(0, 0), 0, 0, 0), one)}, nil, nil, 0},
		{"none that begins anew, two", []api.File{file("nJ-2", goes, two), file("nJ-3", on(h(2, 0), 0, 0, len(goes)+len(two)))}, nil, nil, 0},
		{"none that begins anew, and one that is not begun", []api.File{file("nJ-2", goes, two), file("nJ-3", goes[:3])}, nil, nil, 0},
		{"two that are not begun", []api.File{file("nJ-1", first[:9]), file("nJ-2", first[:9])}, nil, nil, 0},
		{"two that are not begun, behind one that is", []api.File{file("nJ-1", seg1), file("nJ-2"), file("nJ-3")}, nil, nil, 0},
		{"a gap", []api.File{file("nJ-1", seg1), file("nJ-3", goes, two)}, nil, nil, 0},
		{"a broken head ahead of the last", []api.File{file("nJ-1", seg1), file("nJ-2", flipped(goes, 100)), file("nJ-3", on(h(1, 2), 0, 0, len(goes)))}, nil, nil, 0},
		{"a broken last head", []api.File{file("nJ-1", seg1), file("nJ-2", flipped(goes, 3))}, nil, nil, 0},
		{"a broken head that would begin anew", []api.File{file("nJ-1", seg1), file("nJ-2", flipped(later, 70))}, nil, nil, 0},
		{"a part that is too long", []api.File{file("nJ-1", seg1), file("nJ-2", on(h(1, 2), 0, 0, len(seg1)+1))}, nil, nil, 0},
		{"a part that is far too long", []api.File{file("nJ-1", seg1), file("nJ-2", on(h(1, 2), 0, 0, 1<<62))}, nil, nil, 0},
		{"a part within a frame", []api.File{file("nJ-1", seg1), file("nJ-2", on(h(0, 0), 0, 0, len(first)+1))}, nil, nil, 0},
		{"a part within the head", []api.File{file("nJ-1", seg1), file("nJ-2", on(h(0, 0), 0, 0, len(first)-1))}, nil, nil, 0},
		{"no part", []api.File{file("nJ-1", seg1), file("nJ-2", on(h(0, 0), 0, 0, 0))}, nil, nil, 0},
		{"no part of one without a byte", []api.File{file("nJ-1"), file("nJ-2", on(h(0, 0), 0, 0, 0))}, nil, nil, 0},
		{"a part with a torn tail", []api.File{file("nJ-1", seg1, two[:9]), file("nJ-2", on(h(1, 2), 0, 0, len(seg1)+9))}, nil, nil, 0},
		{"a broken record within the part", []api.File{file("nJ-1", first, flipped(one, 80)), file("nJ-2", goes)}, nil, nil, 0},
		{"another term", []api.File{file("nJ-1", seg1), file("nJ-2", on(h(2, 2), 0, 0, len(seg1)))}, nil, nil, 0},
		{"another vote", []api.File{file("nJ-1", seg1), file("nJ-2", on(h(1, 0), 0, 0, len(seg1)))}, nil, nil, 0},
		{"another base", []api.File{file("nJ-1", later), file("nJ-2", on(h(5, 1), 8, 4, len(later)))}, nil, nil, 0},
		{"another base's term", []api.File{file("nJ-1", later), file("nJ-2", on(h(5, 1), 9, 3, len(later)))}, nil, nil, 0},
		{"a broken record", []api.File{file("nJ-1", first, flipped(one, 80), two)}, nil, nil, 0},
		{"a broken last record", []api.File{file("nJ-1", seg1, flipped(two, 80))}, nil, nil, 0},
		{"a broken length", []api.File{file("nJ-1", seg1, flipped(two, 1))}, nil, nil, 0},
		{"a broken length of a tail", []api.File{file("nJ-1", seg1, flipped(two, 1)[:9])}, nil, nil, 0},
		{"a head in the midst", []api.File{file("nJ-1", seg1, first)}, nil, nil, 0},
		{"a head that goes on in the midst", []api.File{file("nJ-1", seg1, goes)}, nil, nil, 0},
		{"a record ahead of the head", []api.File{file("nJ-1", one, first)}, nil, nil, 0},
		{"an empty frame", []api.File{file("nJ-1", seg1, frame(nil))}, nil, nil, 0},
		{"an empty frame first", []api.File{file("nJ-1", frame(nil), one)}, nil, nil, 0},
		{"a frame of another kind", []api.File{file("nJ-1", seg1, frame([]byte("T\x01\x02\x00\x00")))}, nil, nil, 0},
	}
}

func flipped(b []byte, bit int) []byte {
	b = bytes.Clone(b)
	b[bit/8] ^= 1 << (bit % 8)
	return b
}

// 17.1, 17.2: which rows are right, what they say, and what is deleted; of one that is not right nothing is changed.
func TestRows(t *testing.T) {
	for _, c := range rows() {
		d := load(t, c.files...)
		was := d.Files()
		j, err := journal.Open(d, "n", 256)
		if c.says == nil {
			mustErr(t, c.what, err, api.ErrJournal)
			if j != nil || !sameFiles(d.Files(), was) || d.Counts().Acts != 0 {
				t.Errorf("%s: refused, but\n%s", c.what, told(d))
			}
			continue
		}
		mustErr(t, c.what, err, api.OK)
		mustSay(t, c.what, j, c.says.hard, c.says.base, c.says.term, c.says.list...)
		stay := slices.DeleteFunc(was, func(f api.File) bool { return c.stay != nil && !slices.Contains(c.stay, f.Name) })
		if !sameFiles(d.Files(), stay) || d.Counts().Acts != len(c.files)-len(stay) {
			t.Errorf("%s: left\n%s", c.what, told(d))
		}
		if j.Segments() != c.count {
			t.Errorf("%s: %d segments, want %d", c.what, j.Segments(), c.count)
		}
	}
}

// 17.1: heads that are none, alone and behind another segment.
func TestHeads(t *testing.T) {
	good := headBody(anew, h(5, 1), 9, 4, 0)
	seg1 := headFrame(anew, h(5, 1), 9, 4, 0)
	for _, c := range []struct {
		what string
		body []byte
		is   bool
	}{
		{"good", good, true},
		{"all that is greatest", headBody(anew, h(1<<40, 7), 1<<40, 1<<40, 0), true},
		{"all that is least", headBody(anew, h(0, 0), 0, 0, 0), true},
		{"a vote in the term 0", headBody(anew, h(0, 7), 0, 0, 0), true},
		{"base's term is the term", headBody(anew, h(5, 0), 1, 5, 0), true},
		{"term too great", headBody(anew, h(1<<40+1, 1), 9, 4, 0), false},
		{"vote too great", headBody(anew, h(5, 8), 9, 4, 0), false},
		{"base too great", headBody(anew, h(5, 1), 1<<40+1, 4, 0), false},
		{"base's term above the term", headBody(anew, h(5, 1), 9, 6, 0), false},
		{"base without a term", headBody(anew, h(5, 1), 9, 0, 0), false},
		{"a term without a base", headBody(anew, h(5, 1), 0, 4, 0), false},
		{"a part", headBody(anew, h(5, 1), 9, 4, 1), false},
		{"neither anew nor going on", headBody(2, h(5, 1), 9, 4, 0), false},
		{"255", headBody(255, h(5, 1), 9, 4, 0), false},
		{"going on", headBody(along, h(5, 1), 9, 4, 0), false},
		{"another letter", slices.Concat([]byte("h"), good[1:]), false},
		{"a record's letter", slices.Concat([]byte("S"), good[1:]), false},
		{"no byte", nil, false},
		{"one byte", good[:1], false},
		{"two bytes", good[:2], false},
		{"no part", good[:len(good)-1], false},
		{"a byte more", append(bytes.Clone(good), 0), false},
		{"a long 0", append(bytes.Clone(good[:len(good)-1]), 0x80, 0), false},
		{"a negative term", slices.Concat([]byte{'H', 1}, numbers(nil, -1, 1, 9, 4, 0)), false},
		{"a negative vote", slices.Concat([]byte{'H', 1}, numbers(nil, 5, -1, 9, 4, 0)), false},
		{"a negative base", slices.Concat([]byte{'H', 1}, numbers(nil, 5, 1, -9, 4, 0)), false},
		{"a negative base's term", slices.Concat([]byte{'H', 1}, numbers(nil, 5, 1, 9, -4, 0)), false},
		{"a negative part", slices.Concat([]byte{'H', 1}, numbers(nil, 5, 1, 9, 4, -1)), false},
		{"a number of more than 64 bits", slices.Concat([]byte{'H', 1}, bytes.Repeat([]byte{0xff}, 9), []byte{2}, numbers(nil, 1, 9, 4, 0)), false},
	} {
		for i, files := range [][]api.File{{file("nJ-1", frame(c.body))}, {file("nJ-1", seg1), file("nJ-2", frame(c.body))}, {file("nJ-1", frame(c.body)), file("nJ-2", seg1[:9])}} {
			_, err := journal.Open(load(t, files...), "n", 256)
			if want := map[bool]api.Errno{true: api.OK, false: api.ErrJournal}[c.is]; err != want {
				t.Errorf("%s, %d: %d, want %d", c.what, i, err, want)
			}
		}
		// Ahead of a segment that begins anew anything may stand.
		d := load(t, file("nJ-1", frame(c.body)), file("nJ-9", seg1))
		mustSay(t, c.what, open(t, d, 256), h(5, 1), 9, 4)
		if len(d.Files()) != 1 {
			t.Errorf("%s: left\n%s", c.what, told(d))
		}
	}
}

// 17.1: records, each behind Hard 3 1, the base 2 1 and the entries e(3, 2), e(4, 3): those that Save would take, and those that it would not.
func TestRecords(t *testing.T) {
	start := slices.Concat(headFrame(anew, h(2, 0), 2, 1, 0), recFrame(h(3, 1), 3, e(3, 2), e(4, 3)))
	good := recordBody(h(3, 1), 5, e(5, 3))
	big := func(n int) api.LogEntry { return api.LogEntry{Index: 5, Term: 3, Data: make([]byte, n)} }
	for _, c := range []struct {
		what string
		body []byte
		says *sayings
	}{
		{"good", good, right(h(3, 1), 2, 1, e(3, 2), e(4, 3), e(5, 3))},
		{"of no effect", recordBody(h(3, 1), 0), right(h(3, 1), 2, 1, e(3, 2), e(4, 3))},
		{"another term", recordBody(h(4, 0), 0), right(h(4, 0), 2, 1, e(3, 2), e(4, 3))},
		{"the last term", recordBody(h(1<<40, 7), 5, e(5, 1<<40)), right(h(1<<40, 7), 2, 1, e(3, 2), e(4, 3), e(5, 1<<40))},
		{"none behind the last", recordBody(h(3, 1), 5), right(h(3, 1), 2, 1, e(3, 2), e(4, 3))},
		{"none from the first on", recordBody(h(3, 1), 3), right(h(3, 1), 2, 1)},
		{"others from the first on", recordBody(h(3, 1), 3, e(3, 1)), right(h(3, 1), 2, 1, e(3, 1))},
		{"longest data", recordBody(h(3, 1), 5, big(98304)), right(h(3, 1), 2, 1, e(3, 2), e(4, 3), big(98304))},
		{"a term that falls", recordBody(h(2, 1), 0), nil},
		{"another vote", recordBody(h(3, 2), 0), nil},
		{"a vote taken back", recordBody(h(3, 0), 0), nil},
		{"vote too great", recordBody(h(4, 8), 0), nil},
		{"term too great", recordBody(h(1<<40+1, 1), 0), nil},
		{"from the base", recordBody(h(3, 1), 2, e(2, 1)), nil},
		{"from the base, none", recordBody(h(3, 1), 2), nil},
		{"a gap", recordBody(h(3, 1), 6, e(6, 3)), nil},
		{"a gap, none", recordBody(h(3, 1), 6), nil},
		{"from 0 with entries", recordBody(h(3, 1), 0, e(0, 3)), nil},
		{"from far away", recordBody(h(3, 1), 1<<62, e(1, 3)), nil},
		{"from the last number", recordBody(h(3, 1), 1<<63-1, e(1, 3), e(1, 3)), nil},
		{"an entry's term that falls", recordBody(h(3, 1), 5, e(5, 2)), nil},
		{"an entry's term that falls, the second", recordBody(h(4, 1), 5, e(5, 4), e(6, 3)), nil},
		{"an entry's term 0", recordBody(h(3, 1), 3, e(3, 0)), nil},
		{"an entry's term above", recordBody(h(3, 1), 5, e(5, 4)), nil},
		{"a first entry below base's term", recordBody(h(3, 1), 3, e(3, 0)), nil},
		{"data too long", recordBody(h(3, 1), 5, big(98305)), nil},
		{"another letter", slices.Concat([]byte("s"), good[1:]), nil},
		{"no byte", nil, nil},
		{"one byte", good[:1], nil},
		{"no number of entries", recordBody(h(3, 1), 0)[:4], nil},
		{"no data", good[:len(good)-2], nil},
		{"data cut off", good[:len(good)-1], nil},
		{"a byte more", append(bytes.Clone(good), 0), nil},
		{"an entry less than told", numbers([]byte{'S'}, 3, 1, 5, 1), nil},
		{"very many told", numbers([]byte{'S'}, 3, 1, 5, 1<<62, 3, 0), nil},
		{"a number of entries below 0", numbers([]byte{'S'}, 3, 1, 5, -1), nil},
		{"a negative term", numbers([]byte{'S'}, -3, 1, 0, 0), nil},
		{"a negative vote", numbers([]byte{'S'}, 4, -1, 0, 0), nil},
		{"a negative from", numbers([]byte{'S'}, 3, 1, -5, 0), nil},
		{"a negative entry's term", numbers([]byte{'S'}, 3, 1, 5, 1, -3, 0), nil},
		{"a negative length", numbers([]byte{'S'}, 3, 1, 5, 1, 3, -1), nil},
		{"a long number", []byte{'S', 0x83, 0, 1, 0, 0}, nil},
	} {
		for _, files := range [][]api.File{
			{file("nJ-1", start, frame(c.body))},
			{file("nJ-1", start), file("nJ-2", headFrame(along, h(3, 1), 2, 1, len(start)), frame(c.body))},
			{file("nJ-1", start, frame(c.body)), file("nJ-2")},
		} {
			d := load(t, files...)
			j, err := journal.Open(d, "n", 256)
			if c.says == nil {
				mustErr(t, c.what, err, api.ErrJournal)
				continue
			}
			mustErr(t, c.what, err, api.OK)
			mustSay(t, c.what, j, c.says.hard, c.says.base, c.says.term, c.says.list...)
		}
	}
}

// 17.1: at the last index and with as many entries as a log may have.
func TestLastIndexInARow(t *testing.T) {
	top := 1 << 40
	d := load(t, file("nJ-1", headFrame(anew, h(7, 0), top-1, 7, 0), recFrame(h(7, 0), top, e(top, 7)), recFrame(h(8, 0), top+1)))
	mustSay(t, "the last index", open(t, d, 256), h(8, 0), top-1, 7, e(top, 7))
	_, err := journal.Open(load(t, file("nJ-1", headFrame(anew, h(7, 0), top, 7, 0), recFrame(h(7, 0), top+1, e(top+1, 7)))), "n", 256)
	mustErr(t, "an index too great", err, api.ErrJournal)
	var l []api.LogEntry
	for i := range 65536 {
		l = append(l, api.LogEntry{Index: 1 + i, Term: 1})
	}
	full := slices.Concat(headFrame(anew, h(1, 0), 0, 0, 0), recFrame(h(1, 0), 1, l...))
	mustSay(t, "a full log", open(t, load(t, file("nJ-1", full)), 256), h(1, 0), 0, 0, l...)
	_, err = journal.Open(load(t, file("nJ-1", full, recFrame(h(1, 0), 65537, e(65537, 1)))), "n", 256)
	mustErr(t, "one entry too many", err, api.ErrJournal)
}

// 17.2: what does not count is deleted in its order; power that fails at one of the Deletes is Open's answer, and the next Open goes on.
func TestSweepIsCutOff(t *testing.T) {
	first := headFrame(anew, h(0, 0), 0, 0, 0)
	on := headFrame(along, h(0, 0), 0, 0, len(first))
	files := []api.File{
		file("nJ-2", first), file("nJ-3", on), file("nJ-11", []byte("any")), file("nJ-12", headFrame(anew, h(5, 1), 9, 4, 0)), file("nJ-13", on[:9]), file("nJ.TMP"), file("other"),
	}
	order := []string{"nJ.TMP", "nJ-2", "nJ-3", "nJ-11", "nJ-13"}
	for n := 1; n <= len(order)+1; n++ {
		d := load(t, files...)
		d.Arm(n)
		j, err := journal.Open(d, "n", 256)
		if n > len(order) {
			mustErr(t, "Open", err, api.OK)
		} else if err != api.ErrDown || j != nil {
			t.Fatalf("at %d: %v %d", n, j, err)
		}
		for i, name := range order {
			if slices.Contains(d.List(""), name) != (i >= n-1) {
				t.Errorf("at %d: %v", n, d.List(""))
			}
		}
		d.Crash()
		mustSay(t, "behind it", open(t, d, 256), h(5, 1), 9, 4)
		if !slices.Equal(d.List(""), []string{"nJ-12", "other"}) {
			t.Errorf("at %d: left %v", n, d.List(""))
		}
	}
}

// 17.2: so it is if the file of a stroke, or one that is not begun, is all there is.
func TestSweepOfOneIsCutOff(t *testing.T) {
	for _, name := range []string{"nJ.TMP", "nJ-1"} {
		d := load(t, file(name))
		d.Arm(1)
		if j, err := journal.Open(d, "n", 256); j != nil || err != api.ErrDown {
			t.Errorf("%s: %v %d", name, j, err)
		}
		d.Crash()
		mustSay(t, name, open(t, d, 256), h(0, 0), 0, 0)
		if len(d.List("")) > 0 {
			t.Errorf("%s is still there", name)
		}
	}
}

// altered: the files of a journal, something of which is changed, mostly with right sums.
func altered(r *rand.Rand, files []api.File) []api.File {
	i := r.Intn(len(files))
	f := files[i]
	bodies, ends, _, _ := frames(f.Data)
	switch k := r.Intn(12); {
	case k == 0:
		return slices.Delete(files, i, i+1)
	case k == 1:
		f.Name = fmt.Sprint("nJ-", 1+r.Intn(8))
	case k == 2:
		f.Data = f.Data[:r.Intn(len(f.Data)+1)]
	case k == 3 && len(f.Data) > 0:
		f.Data = flipped(f.Data, r.Intn(8*len(f.Data)))
	case k == 4 && len(bodies) > 0:
		// A frame twice.
		n := r.Intn(len(bodies))
		f.Data = slices.Concat(f.Data[:ends[n]], frame(bodies[n]), f.Data[ends[n]:])
	case k == 5 && len(bodies) > 0:
		// A frame is missing.
		n := r.Intn(len(bodies))
		bodies = slices.Delete(slices.Clone(bodies), n, n+1)
		f.Data = joined(bodies)
	case k == 6:
		// A copy under another number.
		f.Name = fmt.Sprint("nJ-", 1+r.Intn(8))
		return append(files, f)
	case len(bodies) > 0:
		n := r.Intn(len(bodies))
		if k > 9 {
			n = 0
		}
		b := bytes.Clone(bodies[n])
		if len(b) > 0 {
			at := r.Intn(min(len(b), 8))
			b[at] = byte(r.Intn(6))
			if r.Intn(2) == 0 {
				b[at] = bodies[n][at] + byte(r.Intn(3)) - 1
			}
		}
		bodies = slices.Clone(bodies)
		bodies[n] = b
		f.Data = joined(bodies)
	}
	files = slices.Clone(files)
	files[i] = f
	return files
}

func joined(bodies [][]byte) []byte {
	var out []byte
	for _, b := range bodies {
		out = append(out, frame(b)...)
	}
	return out
}

// grown: the files of a journal behind some drawn calls.
func grown(t *testing.T, r *rand.Rand) []api.File {
	p := newPair(t, r, 1<<20)
	for range 6 + r.Intn(25) {
		p.step()
		if p.d.Down() {
			p.crash()
		}
	}
	return p.d.Files()
}

// 17.1, 17.2: drawn journals of which something was changed, held against the chapter's words told a second time.
func TestAlteredRows(t *testing.T) {
	t.Parallel()
	count := map[string]int{}
	for seed := range 600 {
		r := rand.New(rand.NewSource(int64(seed)))
		files := grown(t, r)
		for range 30 {
			now := slices.Clone(files)
			for range 1 + r.Intn(3) {
				if len(now) > 0 {
					now = altered(r, now)
				}
			}
			slices.SortStableFunc(now, func(a, b api.File) int { return strings.Compare(a.Name, b.Name) })
			now = slices.CompactFunc(now, func(a, b api.File) bool { return a.Name == b.Name })
			for i := range now {
				now[i].Synced = len(now[i].Data)
			}
			p := newPair(t, r, 1<<20)
			p.d, p.md = load(t, now...), load(t, now...)
			if p.open("n", 256) == api.OK {
				count["right"]++
				before := *p.m
				mustHold(t, "opened", p.d, p.md)
				// 17.10
				p.open("n", 1<<20)
				mustSay(t, "opened again", p.j, before.hard, before.base.Index, before.base.Term, before.list...)
			} else {
				count["wrong"]++
			}
		}
	}
	if count["right"] < 2000 || count["wrong"] < 2000 {
		t.Error(count)
	}
}
