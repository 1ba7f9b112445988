package disk_test

import (
	"math"
	"strconv"
	"strings"
	"testing"

	"strata/api"
	"strata/disk"
)

func newDisk(t *testing.T, capacity int) *disk.Disk {
	t.Helper()
	d, err := disk.New(capacity)
	if err != api.OK || d == nil {
		t.Fatalf("New(%d): %d", capacity, err)
	}
	return d
}

func load(t *testing.T, capacity int, files ...api.File) *disk.Disk {
	t.Helper()
	d, err := disk.Load(capacity, files...)
	if err != api.OK || d == nil {
		t.Fatalf("Load(%d, %s): %d", capacity, text(files), err)
	}
	return d
}

func file(name, data string, synced int) api.File {
	return api.File{Name: name, Data: []byte(data), Synced: synced}
}

func mustErr(t *testing.T, what string, got, want api.Errno) {
	t.Helper()
	if got != want {
		t.Errorf("%s: %d, want %d", what, got, want)
	}
}

func mustHave(t *testing.T, d *disk.Disk, want ...api.File) {
	t.Helper()
	if got := text(d.Files()); got != text(want) {
		t.Errorf("the files are %s, want %s", got, text(want))
	}
}

// many: so many files without a byte.
func many(n int) []api.File {
	var out []api.File
	for i := range n {
		out = append(out, file("f"+strconv.Itoa(i), "", 0))
	}
	return out
}

// 4.2
func TestANewDisk(t *testing.T) {
	for _, capacity := range []int{0, 1, 10, api.MaxDisk} {
		d := newDisk(t, capacity)
		if d.Down() || d.Free() != capacity || d.Capacity() != capacity || len(d.Files()) != 0 || len(d.List("")) != 0 {
			t.Errorf("New(%d): down %v, free %d, capacity %d, %s", capacity, d.Down(), d.Free(), d.Capacity(), text(d.Files()))
		}
		if d.Counts() != (api.DiskCounts{}) {
			t.Errorf("New(%d): %+v", capacity, d.Counts())
		}
		mustErr(t, "a first act, of a disk that is not armed", d.Create("a"), api.OK)
	}
	for _, capacity := range []int{math.MinInt, -1, api.MaxDisk + 1, math.MaxInt} {
		if d, err := disk.New(capacity); d != nil || err != api.ErrArg {
			t.Errorf("New(%d): %v, %d", capacity, d, err)
		}
	}
}

// 4.2
func TestALoadedDisk(t *testing.T) {
	d := load(t, 7, file("b", "12", 1), file("a", "345", 3), file("B", "", 0))
	mustHave(t, d, file("B", "", 0), file("a", "345", 3), file("b", "12", 1))
	if d.Down() || d.Free() != 2 || d.Capacity() != 7 || d.Counts() != (api.DiskCounts{}) {
		t.Errorf("down %v, free %d, capacity %d, %+v", d.Down(), d.Free(), d.Capacity(), d.Counts())
	}
	mustErr(t, "Sync, of a disk that is not armed", d.Sync("b"), api.OK)
	mustHave(t, load(t, 0))
	mustHave(t, load(t, 5, file("a", "12345", 0)), file("a", "12345", 0))
	if n := len(load(t, 0, many(256)...).List("")); n != 256 {
		t.Errorf("%d files of 256", n)
	}
	big := api.File{Name: "a", Data: make([]byte, api.MaxDisk)}
	if free := load(t, api.MaxDisk, big).Free(); free != 0 {
		t.Errorf("%d free behind MaxDisk bytes", free)
	}
}

// 4.2
func TestWhatMayNotBeLoaded(t *testing.T) {
	bad := file("a b", "", 0)
	for i, x := range []struct {
		capacity int
		files    []api.File
		want     api.Errno
	}{
		{-1, nil, api.ErrArg},
		{api.MaxDisk + 1, nil, api.ErrArg},
		{-1, append(many(256), bad), api.ErrArg},
		{9, append(many(256), bad), api.ErrFiles},
		{9, append([]api.File{bad}, many(256)...), api.ErrFiles},
		{9, []api.File{bad}, api.ErrName},
		{9, []api.File{file("", "", 0)}, api.ErrName},
		{9, []api.File{file(strings.Repeat("n", 65), "", 0)}, api.ErrName},
		{0, []api.File{file("a b", "1", -1)}, api.ErrName},
		{9, []api.File{file("a", "", 0), file("a", "", 0)}, api.ErrExists},
		{0, []api.File{file("a", "", 0), file("a", "1", 2)}, api.ErrExists},
		{9, []api.File{file("a", "", 0), file("b", "", 0), file("a", "", 0)}, api.ErrExists},
		{9, []api.File{file("a", "12", -1)}, api.ErrRange},
		{9, []api.File{file("a", "12", 3)}, api.ErrRange},
		{9, []api.File{file("a", "", 1)}, api.ErrRange},
		{9, []api.File{file("a", "12", math.MinInt)}, api.ErrRange},
		{9, []api.File{file("a", "12", math.MaxInt)}, api.ErrRange},
		{1, []api.File{file("a", "12", 3)}, api.ErrRange},
		{3, []api.File{file("a", "1234", 0)}, api.ErrFull},
		{3, []api.File{file("a", "12", 2), file("b", "34", 0)}, api.ErrFull},
		{0, []api.File{file("a", "1", 0)}, api.ErrFull},
		{3, []api.File{file("a", "1234", 0), bad}, api.ErrFull},
		{3, []api.File{bad, file("a", "1234", 0)}, api.ErrName},
		{3, []api.File{file("a", "1", 2), bad}, api.ErrRange},
	} {
		if d, err := disk.Load(x.capacity, x.files...); d != nil || err != x.want {
			t.Errorf("row %d: %v, %d, want %d", i, d, err, x.want)
		}
	}
}

// 4.1
func TestNames(t *testing.T) {
	good := []string{"a", "z", "A", "Z", "0", "9", ".", "-", "_", "/", "t0.wal-00/x_Y", strings.Repeat("n", 64)}
	bad := []string{"", " ", "a b", "a\x00", "é", "\xff", "a\n", strings.Repeat("n", 65), strings.Repeat("n", 1000)}
	for c := range 256 {
		name := string([]byte{byte(c)})
		if strings.Contains(letters, name) {
			good = append(good, name, "a"+name, name+"a")
		} else {
			bad = append(bad, name, "a"+name, name+"a")
		}
	}
	for _, name := range good {
		d := newDisk(t, 1)
		if d.Create(name) != api.OK || len(d.List(name)) != 1 {
			t.Errorf("%q is a name", name)
		}
	}
	d := newDisk(t, 9)
	mustErr(t, "Create", d.Create("a"), api.OK)
	for _, name := range bad {
		what := strconv.Quote(name)
		mustErr(t, "Create "+what, d.Create(name), api.ErrName)
		mustErr(t, "Append "+what, d.Append(name, nil), api.ErrName)
		mustErr(t, "Sync "+what, d.Sync(name), api.ErrName)
		mustErr(t, "Rename from "+what, d.Rename(name, "a"), api.ErrName)
		mustErr(t, "Rename to "+what, d.Rename("a", name), api.ErrName)
		mustErr(t, "Delete "+what, d.Delete(name), api.ErrName)
		mustErr(t, "Flip "+what, d.Flip(name, 0), api.ErrName)
		_, err := d.Read(name, 0, 0)
		mustErr(t, "Read "+what, err, api.ErrName)
		_, err = d.Size(name)
		mustErr(t, "Size "+what, err, api.ErrName)
	}
	if d.Counts() != (api.DiskCounts{Acts: 1}) {
		t.Errorf("%+v", d.Counts())
	}
}

// 4.1, 4.7
func TestNamesHaveTheOrderOfTheirBytes(t *testing.T) {
	d := newDisk(t, 0)
	for _, name := range []string{"b", "a", "ab", "a.", "a-", "a/", "a_", "a0", "Z", "aB", "aa", "-"} {
		mustErr(t, "Create "+name, d.Create(name), api.OK)
	}
	for prefix, want := range map[string]string{
		"":                       "- Z a a- a. a/ a0 aB a_ aa ab b",
		"a":                      "a a- a. a/ a0 aB a_ aa ab",
		"a.":                     "a.",
		"aa":                     "aa",
		"c":                      "",
		"\x00":                   "",
		strings.Repeat("a", 100): "",
	} {
		if got := strings.Join(d.List(prefix), " "); got != want {
			t.Errorf("List(%q) is %q, want %q", prefix, got, want)
		}
	}
}

// 4.1, 4.4, 4.6
func TestThereAreAtMostMaxFiles(t *testing.T) {
	d := newDisk(t, 9)
	for _, f := range many(api.MaxFiles) {
		mustErr(t, "Create "+f.Name, d.Create(f.Name), api.OK)
	}
	mustErr(t, "one more", d.Create("more"), api.ErrFiles)
	mustErr(t, "no name", d.Create(""), api.ErrName)
	mustErr(t, "one that is there", d.Create("f0"), api.ErrExists)
	mustErr(t, "Rename", d.Rename("f0", "more"), api.OK)
	mustErr(t, "one more yet", d.Create("f0"), api.ErrFiles)
	mustErr(t, "Rename over another", d.Rename("more", "f1"), api.OK)
	mustErr(t, "the one that has room", d.Create("f0"), api.OK)
	mustErr(t, "Delete", d.Delete("f2"), api.OK)
	mustErr(t, "the one that has room", d.Create("more"), api.OK)
	if n := len(d.List("")); n != api.MaxFiles {
		t.Errorf("%d files", n)
	}
}

// 4.4
func TestCreate(t *testing.T) {
	d := load(t, 3, file("a", "123", 2))
	mustErr(t, "one that is there", d.Create("a"), api.ErrExists)
	mustErr(t, "no name", d.Create("a b"), api.ErrName)
	mustErr(t, "on a full disk", d.Create("b"), api.OK)
	mustHave(t, d, file("a", "123", 2), file("b", "", 0))
	if d.Counts() != (api.DiskCounts{Acts: 1}) {
		t.Errorf("%+v", d.Counts())
	}
}

// 4.5
func TestAppend(t *testing.T) {
	d := load(t, 10, file("a", "12", 2), file("b", "", 0))
	mustErr(t, "Append", d.Append("a", []byte("345")), api.OK)
	mustErr(t, "Append of nothing", d.Append("a", nil), api.OK)
	mustErr(t, "one byte too many", d.Append("b", []byte("678901")), api.ErrFull)
	mustErr(t, "no file", d.Append("c", []byte("678901")), api.ErrNoFile)
	mustErr(t, "no name", d.Append("", []byte("678901")), api.ErrName)
	mustHave(t, d, file("a", "12345", 2), file("b", "", 0))
	mustErr(t, "up to the last byte", d.Append("b", []byte("67890")), api.OK)
	mustErr(t, "on a full disk", d.Append("a", []byte("x")), api.ErrFull)
	mustErr(t, "nothing on a full disk", d.Append("a", []byte{}), api.OK)
	mustHave(t, d, file("a", "12345", 2), file("b", "67890", 0))
	if d.Counts() != (api.DiskCounts{Acts: 4, Appends: 4}) {
		t.Errorf("%+v", d.Counts())
	}
}

// 4.5
func TestAppendOfVeryMuch(t *testing.T) {
	most, more := make([]byte, api.MaxDisk), make([]byte, api.MaxDisk+1)
	d := newDisk(t, 9)
	mustErr(t, "no name", d.Append("", more), api.ErrName)
	mustErr(t, "too long, ahead of no file", d.Append("a", more), api.ErrLong)
	mustErr(t, "no file", d.Append("a", most), api.ErrNoFile)
	mustErr(t, "Create", d.Create("a"), api.OK)
	mustErr(t, "too long, ahead of no room", d.Append("a", more), api.ErrLong)
	mustErr(t, "no room", d.Append("a", most), api.ErrFull)
	d.Arm(1)
	mustErr(t, "the last act", d.Sync("a"), api.ErrDown)
	mustErr(t, "too long, behind down", d.Append("a", more), api.ErrDown)

	d = load(t, api.MaxDisk, file("a", "", 0))
	mustErr(t, "a whole disk", d.Append("a", most), api.OK)
	mustErr(t, "one more", d.Append("a", []byte{0}), api.ErrFull)
	if n, err := d.Size("a"); n != api.MaxDisk || err != api.OK || d.Free() != 0 {
		t.Errorf("%d bytes, %d, %d free", n, err, d.Free())
	}
}

// 4.5
func TestSync(t *testing.T) {
	d := load(t, 10, file("a", "12", 1), file("b", "3", 0))
	mustErr(t, "Sync", d.Sync("a"), api.OK)
	mustErr(t, "Sync again", d.Sync("a"), api.OK)
	mustErr(t, "no file", d.Sync("c"), api.ErrNoFile)
	mustErr(t, "no name", d.Sync("a b"), api.ErrName)
	mustHave(t, d, file("a", "12", 2), file("b", "3", 0))
	if d.Counts() != (api.DiskCounts{Acts: 2, Syncs: 2}) {
		t.Errorf("%+v", d.Counts())
	}
}

// 4.6
func TestRename(t *testing.T) {
	d := load(t, 10, file("a", "1234", 3), file("b", "56", 1))
	mustErr(t, "to a new name", d.Rename("a", "c"), api.OK)
	mustHave(t, d, file("b", "56", 1), file("c", "1234", 3))
	mustErr(t, "the name that is gone", d.Rename("a", "d"), api.ErrNoFile)
	mustErr(t, "no file, to itself", d.Rename("a", "a"), api.ErrNoFile)
	mustErr(t, "no names", d.Rename("", ""), api.ErrName)
	mustErr(t, "no file, to no name", d.Rename("a", ""), api.ErrName)
	mustErr(t, "to itself", d.Rename("c", "c"), api.OK)
	mustHave(t, d, file("b", "56", 1), file("c", "1234", 3))
	mustErr(t, "over another", d.Rename("c", "b"), api.OK)
	mustHave(t, d, file("b", "1234", 3))
	if d.Free() != 6 || d.Counts() != (api.DiskCounts{Acts: 3, Renames: 3}) {
		t.Errorf("%d free, %+v", d.Free(), d.Counts())
	}
}

// 4.6
func TestDelete(t *testing.T) {
	d := load(t, 10, file("a", "1234", 3), file("b", "56", 1))
	mustErr(t, "Delete", d.Delete("a"), api.OK)
	mustErr(t, "Delete again", d.Delete("a"), api.ErrNoFile)
	mustErr(t, "no name", d.Delete("a b"), api.ErrName)
	mustHave(t, d, file("b", "56", 1))
	if d.Free() != 8 || d.Counts() != (api.DiskCounts{Acts: 1, Deletes: 1}) {
		t.Errorf("%d free, %+v", d.Free(), d.Counts())
	}
	mustErr(t, "Create anew", d.Create("a"), api.OK)
	mustHave(t, d, file("a", "", 0), file("b", "56", 1))
}

// 4.7
func TestRead(t *testing.T) {
	d := load(t, 10, file("a", "1234", 2), file("b", "", 0))
	for _, x := range []struct {
		name  string
		at, n int
		want  string
		err   api.Errno
	}{
		{"a", 0, 4, "1234", api.OK},
		{"a", 1, 2, "23", api.OK},
		{"a", 3, 1, "4", api.OK},
		{"a", 0, 0, "", api.OK},
		{"a", 4, 0, "", api.OK},
		{"b", 0, 0, "", api.OK},
		{"a", 4, 1, "", api.ErrRange},
		{"a", 0, 5, "", api.ErrRange},
		{"a", 5, 0, "", api.ErrRange},
		{"a", -1, 1, "", api.ErrRange},
		{"a", 1, -1, "", api.ErrRange},
		{"a", 5, -1, "", api.ErrRange},
		{"b", 0, 1, "", api.ErrRange},
		{"b", 1, 0, "", api.ErrRange},
		{"a", 1, math.MaxInt, "", api.ErrRange},
		{"a", math.MaxInt, 1, "", api.ErrRange},
		{"a", math.MaxInt, math.MaxInt, "", api.ErrRange},
		{"a", math.MinInt, math.MinInt, "", api.ErrRange},
		{"a", math.MinInt, math.MaxInt, "", api.ErrRange},
		{"c", -1, -1, "", api.ErrNoFile},
		{"", -1, -1, "", api.ErrName},
	} {
		b, err := d.Read(x.name, x.at, x.n)
		if string(b) != x.want || err != x.err {
			t.Errorf("Read(%q, %d, %d): %q, %d, want %q, %d", x.name, x.at, x.n, b, err, x.want, x.err)
		}
	}
	if d.Counts() != (api.DiskCounts{Reads: 6}) {
		t.Errorf("%+v", d.Counts())
	}
}

// 4.7
func TestSize(t *testing.T) {
	d := load(t, 10, file("a", "1234", 2), file("b", "", 0))
	for _, x := range []struct {
		name string
		want int
		err  api.Errno
	}{
		{"a", 4, api.OK}, {"b", 0, api.OK}, {"c", 0, api.ErrNoFile}, {"c d", 0, api.ErrName},
	} {
		if n, err := d.Size(x.name); n != x.want || err != x.err {
			t.Errorf("Size(%q): %d, %d", x.name, n, err)
		}
	}
	if d.Counts() != (api.DiskCounts{}) {
		t.Errorf("%+v", d.Counts())
	}
}

// 4.3, 4.7
func TestWhatADiskThatIsDownAnswers(t *testing.T) {
	d := load(t, 10, file("a", "1234", 2), file("b", "", 0))
	if _, err := d.Read("a", 0, 1); err != api.OK {
		t.Errorf("Read: %d", err)
	}
	d.Arm(1)
	mustErr(t, "the last act", d.Delete("a"), api.ErrDown)
	for _, name := range []string{"", "a", "b", "c"} {
		mustErr(t, "Create "+name, d.Create(name), api.ErrDown)
		mustErr(t, "Append "+name, d.Append(name, make([]byte, 99)), api.ErrDown)
		mustErr(t, "Sync "+name, d.Sync(name), api.ErrDown)
		mustErr(t, "Rename from "+name, d.Rename(name, "a"), api.ErrDown)
		mustErr(t, "Rename to "+name, d.Rename("a", name), api.ErrDown)
		mustErr(t, "Delete "+name, d.Delete(name), api.ErrDown)
		if b, err := d.Read(name, 0, 0); b != nil || err != api.ErrDown {
			t.Errorf("Read(%q): %q, %d", name, b, err)
		}
		if n, err := d.Size(name); n != 0 || err != api.ErrDown {
			t.Errorf("Size(%q): %d, %d", name, n, err)
		}
	}
	mustHave(t, d, file("a", "1234", 2), file("b", "", 0))
	if !d.Down() || d.Free() != 6 || d.Capacity() != 10 || strings.Join(d.List(""), " ") != "a b" {
		t.Errorf("down %v, free %d, capacity %d, %q", d.Down(), d.Free(), d.Capacity(), d.List(""))
	}
	if d.Counts() != (api.DiskCounts{Reads: 1}) {
		t.Errorf("%+v", d.Counts())
	}
}
