package disk_test

import (
	"bytes"
	"fmt"
	"math"
	"math/rand"
	"strings"
	"testing"

	"strata/api"
	"strata/disk"
)

// base is a disk with a tail, a file that is synced and one without a byte.
func base(t *testing.T) *disk.Disk {
	t.Helper()
	return load(t, 20, file("a", "1234", 2), file("b", "56", 2), file("c", "", 0))
}

// 4.8
func TestTheArmedAct(t *testing.T) {
	before := []api.File{file("a", "1234", 2), file("b", "56", 2), file("c", "", 0)}
	for _, x := range []struct {
		last   call
		files  []api.File
		counts api.DiskCounts
	}{
		{call{what: "Create", name: "d"}, before, api.DiskCounts{}},
		{call{what: "Sync", name: "a"}, before, api.DiskCounts{}},
		{call{what: "Rename", name: "a", to: "b"}, before, api.DiskCounts{}},
		{call{what: "Rename", name: "a", to: "a"}, before, api.DiskCounts{}},
		{call{what: "Delete", name: "a"}, before, api.DiskCounts{}},
		{call{what: "Append", name: "b", b: []byte("789")}, []api.File{file("a", "1234", 2), file("b", "56789", 2), file("c", "", 0)}, api.DiskCounts{Acts: 1, Appends: 1}},
		{call{what: "Append", name: "b"}, before, api.DiskCounts{Acts: 1, Appends: 1}},
	} {
		d := base(t)
		d.Arm(1)
		if d.Down() {
			t.Errorf("%v: down ahead of it", x.last)
		}
		mustErr(t, x.last.String(), ask(d, x.last).err, api.ErrDown)
		mustHave(t, d, x.files...)
		if !d.Down() || d.Counts() != x.counts {
			t.Errorf("%v: down %v, %+v", x.last, d.Down(), d.Counts())
		}
	}
}

// 4.3, 4.8
func TestWhatIsRefusedIsNoAct(t *testing.T) {
	d := load(t, 20, append(many(254), file("a", "1234", 2), file("b", "5", 1))...)
	d.Arm(2)
	for range 3 {
		mustErr(t, "Create of no name", d.Create(""), api.ErrName)
		mustErr(t, "Create of what is there", d.Create("a"), api.ErrExists)
		mustErr(t, "Create of one too many", d.Create("c"), api.ErrFiles)
		mustErr(t, "Append to no name", d.Append("", nil), api.ErrName)
		mustErr(t, "Append to no file", d.Append("c", nil), api.ErrNoFile)
		mustErr(t, "Append of too much", d.Append("a", make([]byte, 16)), api.ErrFull)
		mustErr(t, "Sync of no name", d.Sync(""), api.ErrName)
		mustErr(t, "Sync of no file", d.Sync("c"), api.ErrNoFile)
		mustErr(t, "Rename of no name", d.Rename("", "a"), api.ErrName)
		mustErr(t, "Rename to no name", d.Rename("a", ""), api.ErrName)
		mustErr(t, "Rename of no file", d.Rename("c", "a"), api.ErrNoFile)
		mustErr(t, "Delete of no name", d.Delete(""), api.ErrName)
		mustErr(t, "Delete of no file", d.Delete("c"), api.ErrNoFile)
	}
	d.Read("a", 0, 1)
	d.Read("a", 0, 9)
	d.Size("a")
	d.Flip("b", 0)
	d.List("")
	d.Files()
	mustErr(t, "the first act", d.Sync("a"), api.OK)
	d.Flip("b", 0)
	mustErr(t, "the second one", d.Delete("a"), api.ErrDown)
	if d.Counts() != (api.DiskCounts{Acts: 1, Syncs: 1, Reads: 1}) {
		t.Errorf("%+v", d.Counts())
	}
}

// 4.8
func TestEveryActCountsTowardsTheArmedOne(t *testing.T) {
	acts := []call{
		{what: "Create", name: "d"},
		{what: "Append", name: "d", b: []byte("78")},
		{what: "Append", name: "d"},
		{what: "Sync", name: "d"},
		{what: "Sync", name: "d"},
		{what: "Rename", name: "d", to: "b"},
		{what: "Rename", name: "b", to: "b"},
		{what: "Delete", name: "b"},
	}
	for n := 1; n <= len(acts)+1; n++ {
		d := base(t)
		d.Arm(n)
		for i, c := range acts {
			want := api.OK
			if i+1 >= n {
				want = api.ErrDown
			}
			mustErr(t, fmt.Sprintf("armed with %d, act %d", n, i+1), ask(d, c).err, want)
		}
		if d.Down() != (n <= len(acts)) {
			t.Errorf("armed with %d: down %v", n, d.Down())
		}
	}
}

// 4.8
func TestArmReplacesWhatWasArmed(t *testing.T) {
	for _, none := range []int{0, -1, math.MinInt} {
		d := base(t)
		d.Arm(1)
		d.Arm(none)
		for range 3 {
			mustErr(t, "Sync, not armed any more", d.Sync("a"), api.OK)
		}
	}
	d := base(t)
	d.Arm(1)
	d.Arm(3)
	mustErr(t, "the first", d.Sync("a"), api.OK)
	mustErr(t, "the second", d.Sync("a"), api.OK)
	d.Arm(2)
	mustErr(t, "the first of two", d.Sync("a"), api.OK)
	d.Arm(math.MaxInt)
	mustErr(t, "the first of very many", d.Sync("a"), api.OK)
	d.Arm(1)
	mustErr(t, "the last", d.Sync("a"), api.ErrDown)
}

// 4.8, 4.9
func TestArmDoesNothingWhileTheDiskIsDown(t *testing.T) {
	for _, n := range []int{-1, 0, 1, 2} {
		d := base(t)
		d.Arm(1)
		mustErr(t, "the last act", d.Sync("a"), api.ErrDown)
		d.Arm(n)
		if !d.Down() {
			t.Errorf("Arm(%d): up", n)
		}
		d.Crash()
		for range 4 {
			mustErr(t, "Sync behind the Crash", d.Sync("a"), api.OK)
		}
	}
}

// 4.9
func TestCrash(t *testing.T) {
	for _, x := range []struct {
		cuts string
		a, c string // what stays of a's tail "34" and of c's "789"
	}{
		{"[]", "", ""},
		{"[0]", "", ""},
		{"[1]", "3", ""},
		{"[2]", "34", ""},
		{"[3]", "34", ""},
		{"[9223372036854775807]", "34", ""},
		{"[-1]", "", ""},
		{"[-9223372036854775808]", "", ""},
		{"[0 1]", "", "7"},
		{"[1 2]", "3", "78"},
		{"[-1 3]", "", "789"},
		{"[2 9223372036854775807]", "34", "789"},
		{"[2 2 1 7]", "34", "78"},
	} {
		for _, down := range []bool{false, true} {
			d := load(t, 20, file("c", "789", 0), file("d", "", 0), file("a", "1234", 2), file("b", "56", 2))
			if down {
				d.Arm(1)
				mustErr(t, "the last act", d.Sync("a"), api.ErrDown)
			} else {
				d.Arm(2)
			}
			if n := d.Crash(numbers(x.cuts)...); n != 2 {
				t.Errorf("Crash(%s): %d", x.cuts, n)
			}
			mustHave(t, d, file("a", "12"+x.a, 2+len(x.a)), file("b", "56", 2), file("c", x.c, len(x.c)), file("d", "", 0))
			if d.Down() || d.Free() != 16-len(x.a+x.c) || d.Counts() != (api.DiskCounts{}) {
				t.Errorf("Crash(%s): down %v, free %d, %+v", x.cuts, d.Down(), d.Free(), d.Counts())
			}
			for range 3 {
				mustErr(t, "Sync, not armed any more", d.Sync("a"), api.OK)
			}
			if n := d.Crash(1, 1); n != 0 {
				t.Errorf("Crash with no tail: %d", n)
			}
		}
	}
}

func numbers(s string) []int {
	var out []int
	for _, word := range strings.Fields(strings.Trim(s, "[]")) {
		var n int
		fmt.Sscan(word, &n)
		out = append(out, n)
	}
	return out
}

// 4.9
func TestWhatIsLostIsGone(t *testing.T) {
	d := load(t, 6, file("a", "123456", 2))
	if n := d.Crash(1); n != 1 || d.Free() != 3 {
		t.Errorf("Crash: %d, %d free", n, d.Free())
	}
	mustErr(t, "Append", d.Append("a", []byte("xyz")), api.OK)
	mustHave(t, d, file("a", "123xyz", 3))
	if n := d.Crash(); n != 1 {
		t.Errorf("Crash: %d", n)
	}
	mustHave(t, d, file("a", "123", 3))
}

// 4.10
func TestFlip(t *testing.T) {
	data := []byte{0x00, 0xff, 0xa5}
	for bit := range 8 * len(data) {
		d := load(t, 3, api.File{Name: "a", Data: data, Synced: 2})
		mustErr(t, "Flip", d.Flip("a", bit), api.OK)
		want := bytes.Clone(data)
		want[bit/8] ^= []byte{1, 2, 4, 8, 16, 32, 64, 128}[bit%8]
		mustHave(t, d, api.File{Name: "a", Data: want, Synced: 2})
		mustErr(t, "Flip back", d.Flip("a", bit), api.OK)
		mustHave(t, d, api.File{Name: "a", Data: data, Synced: 2})
		if d.Counts() != (api.DiskCounts{}) {
			t.Errorf("%+v", d.Counts())
		}
	}
}

// 4.10
func TestWhatFlipRefuses(t *testing.T) {
	d := load(t, 3, file("a", "123", 2), file("b", "", 0))
	for _, down := range []bool{false, true} {
		if down {
			d.Arm(1)
			mustErr(t, "the last act", d.Sync("a"), api.ErrDown)
		}
		for _, bit := range []int{math.MinInt, -9, -8, -1, 24, 25, math.MaxInt} {
			mustErr(t, fmt.Sprintf("bit %d", bit), d.Flip("a", bit), api.ErrRange)
		}
		mustErr(t, "a file without a bit", d.Flip("b", 0), api.ErrRange)
		mustErr(t, "no file", d.Flip("c", -1), api.ErrNoFile)
		mustErr(t, "no name", d.Flip("", -1), api.ErrName)
		mustHave(t, d, file("a", "123", 2), file("b", "", 0))
	}
	mustErr(t, "Flip while it is down", d.Flip("a", 1), api.OK)
	mustHave(t, d, file("a", "323", 2), file("b", "", 0))
}

// acts draws calls that are acts, most of which nothing refuses.
func acts(r *rand.Rand, n int) []call {
	var out []call
	for len(out) < n {
		if c := drawCall(r); strings.Contains("Create Append Sync Rename Delete", c.what) {
			out = append(out, c)
		}
	}
	return out
}

// 4.11, 4.12
func TestPowerLeavesWhatTheActsLeft(t *testing.T) {
	r := rand.New(rand.NewSource(12))
	for range 1500 {
		script := acts(r, 25)
		n := 1 + r.Intn(15)
		m, d := &model{capacity: 60}, newDisk(t, 60)
		d.Arm(n)
		for _, c := range script {
			ask(d, c)
			if m.refusal(c) != api.OK {
				continue
			}
			n--
			if n > 0 || n == 0 && c.what == "Append" {
				m.act(c)
			}
			if n == 0 {
				break
			}
		}
		var cuts []int
		for i, f := range m.files {
			if tail := len(f.Data) - f.Synced; tail > 0 {
				cuts = append(cuts, r.Intn(tail+1))
				m.files[i].Synced += cuts[len(cuts)-1]
				m.files[i].Data = f.Data[:m.files[i].Synced]
			}
		}
		if tails := d.Crash(cuts...); tails != len(cuts) {
			t.Fatalf("%v: %d tails, want %d", script, tails, len(cuts))
		}
		if text(d.Files()) != text(m.files) {
			t.Fatalf("%v: %s, want %s", script, text(d.Files()), text(m.files))
		}
	}
}

// 4.11
func TestSyncedBytesAndNamesAreSafe(t *testing.T) {
	r := rand.New(rand.NewSource(11))
	for range 1500 {
		d := newDisk(t, 60)
		for range r.Intn(40) {
			ask(d, drawCall(r))
		}
		before := d.Files()
		cuts := make([]int, r.Intn(5))
		for i := range cuts {
			cuts[i] = drawNumber(r)
		}
		d.Crash(cuts...)
		after := d.Files()
		if len(before) != len(after) {
			t.Fatalf("%s became %s", text(before), text(after))
		}
		for i, f := range after {
			old := before[i]
			if f.Name != old.Name || len(f.Data) < old.Synced || !bytes.HasPrefix(old.Data, f.Data) || f.Synced != len(f.Data) {
				t.Fatalf("Crash(%v): %s became %s", cuts, text(before), text(after))
			}
		}
	}
}
