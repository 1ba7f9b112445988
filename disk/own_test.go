package disk_test

import (
	"bytes"
	"fmt"
	"math"
	"math/rand"
	"runtime"
	"slices"
	"strings"
	"testing"
	"unsafe"

	"strata/api"
	"strata/disk"
)

// 4.1 to 4.10
func TestTheExamplesInTurn(t *testing.T) {
	d := newDisk(t, 10)
	for _, x := range []struct {
		c    call
		want answer
	}{
		{call{what: "Create", name: ""}, answer{err: api.ErrName}},
		{call{what: "Create", name: "a b"}, answer{err: api.ErrName}},
		{call{what: "Create", name: "a"}, answer{}},
		{call{what: "Create", name: "a"}, answer{err: api.ErrExists}},
		{call{what: "Append", name: "a", b: []byte("12345")}, answer{}},
		{call{what: "Sync", name: "a"}, answer{}},
		{call{what: "Append", name: "a", b: []byte("678")}, answer{}},
		{call{what: "Append", name: "a", b: []byte("xyz")}, answer{err: api.ErrFull}},
		{call{what: "Append", name: "b", b: []byte("xyz")}, answer{err: api.ErrNoFile}},
		{call{what: "Read", name: "a", at: 4, n: 3}, answer{b: "567"}},
		{call{what: "Read", name: "a", at: 8, n: 0}, answer{}},
		{call{what: "Read", name: "a", at: 8, n: 1}, answer{err: api.ErrRange}},
		{call{what: "Create", name: "b"}, answer{}},
		{call{what: "Append", name: "b", b: []byte("q")}, answer{}},
		{call{what: "Arm", n: 2}, answer{}},
		{call{what: "Sync", name: "c"}, answer{err: api.ErrNoFile}},
		{call{what: "Sync", name: "b"}, answer{}},
		{call{what: "Rename", name: "b", to: "a"}, answer{err: api.ErrDown}},
		{call{what: "Create", name: "c"}, answer{err: api.ErrDown}},
		{call{what: "Arm", n: 1}, answer{}},
		{call{what: "Crash", cuts: []int{2}}, answer{n: 1}},
		{call{what: "Arm", n: 1}, answer{}},
		{call{what: "Append", name: "a", b: []byte("89")}, answer{err: api.ErrDown}},
		{call{what: "Size", name: "a"}, answer{err: api.ErrDown}},
		{call{what: "Crash"}, answer{n: 1}},
		{call{what: "Size", name: "a"}, answer{n: 7}},
		{call{what: "Rename", name: "b", to: "a"}, answer{}},
		{call{what: "Flip", name: "a", n: 1}, answer{}},
		{call{what: "Read", name: "a", at: 0, n: 1}, answer{b: "s"}},
		{call{what: "Flip", name: "a", n: 8}, answer{err: api.ErrRange}},
	} {
		if got := ask(d, x.c); got != x.want {
			t.Errorf("%v: %+v, want %+v", x.c, got, x.want)
		}
	}
	mustHave(t, d, file("a", "s", 1))
	if d.Counts() != (api.DiskCounts{Acts: 9, Appends: 4, Syncs: 2, Renames: 1, Reads: 3}) {
		t.Errorf("%+v", d.Counts())
	}
}

// 4.13
func TestNoBytesAreLost(t *testing.T) {
	r := rand.New(rand.NewSource(13))
	for range 300 {
		d, said := newDisk(t, 400), map[string]string{}
		for range 60 {
			name, to, b := pick(r, "a", "b", "c"), pick(r, "b", "c", "d"), drawBytes(r)
			_, there := said[name]
			switch {
			case r.Intn(9) == 0 && there:
				mustErr(t, "Delete", d.Delete(name), api.OK)
				delete(said, name)
			case r.Intn(9) == 0 && there:
				mustErr(t, "Rename", d.Rename(name, to), api.OK)
				was := said[name]
				delete(said, name)
				said[to] = was
			case r.Intn(5) == 0 && there:
				mustErr(t, "Sync", d.Sync(name), api.OK)
			case there:
				mustErr(t, "Append", d.Append(name, b), api.OK)
				said[name] += string(b)
			default:
				mustErr(t, "Create", d.Create(name), api.OK)
				said[name] = ""
			}
			sum := 0
			for name, want := range said {
				at := r.Intn(len(want) + 1)
				got, err := d.Read(name, at, len(want)-at)
				if size, _ := d.Size(name); err != api.OK || string(got) != want[at:] || size != len(want) {
					t.Fatalf("Read(%q, %d) of %d: %q, %d, want %q", name, at, size, got, err, want[at:])
				}
				sum += len(want)
			}
			if d.Free()+sum != d.Capacity() || len(d.Files()) != len(said) {
				t.Fatalf("%d free, %d bytes in %s", d.Free(), sum, text(d.Files()))
			}
		}
	}
}

// 4.14
func TestALoadedDiskAnswersAsTheOneItIsOf(t *testing.T) {
	r := rand.New(rand.NewSource(14))
	for range 600 {
		d := newDisk(t, r.Intn(60))
		for range r.Intn(60) {
			ask(d, drawCall(r))
		}
		twin := load(t, d.Capacity(), d.Files()...)
		if twin.Down() || twin.Counts() != (api.DiskCounts{}) {
			t.Fatalf("a loaded disk: down %v, %+v", twin.Down(), twin.Counts())
		}
		if d.Down() {
			cuts := []int{drawNumber(r), drawNumber(r)}
			if a, b := d.Crash(cuts...), twin.Crash(cuts...); a != b {
				t.Fatalf("Crash(%v): %d and %d", cuts, a, b)
			}
		}
		d.Arm(0)
		for range 40 {
			c := drawCall(r)
			if a, b := ask(d, c), ask(twin, c); a != b {
				t.Fatalf("%v: %+v and %+v", c, a, b)
			}
			if text(d.Files()) != text(twin.Files()) || d.Free() != twin.Free() || d.Down() != twin.Down() || !slices.Equal(d.List("a"), twin.List("a")) {
				t.Fatalf("behind %v: %s and %s", c, text(d.Files()), text(twin.Files()))
			}
		}
	}
}

// 4.2
func TestTwoDisksHaveNothingInCommon(t *testing.T) {
	files := []api.File{file("a", "1234", 2), file("b", "56", 1)}
	d, twin := load(t, 10, files...), load(t, 10, files...)
	d.Flip("a", 0)
	d.Append("a", []byte("xy"))
	d.Delete("b")
	d.Arm(1)
	d.Sync("a")
	mustHave(t, twin, files...)
	if twin.Down() || twin.Free() != 4 || twin.Counts() != (api.DiskCounts{}) {
		t.Errorf("down %v, free %d, %+v", twin.Down(), twin.Free(), twin.Counts())
	}
}

// roomy is bytes with spare room behind them that can be looked at.
func roomy(s string) []byte {
	whole := slices.Concat([]byte(s), bytes.Repeat([]byte{0xc3}, 32))
	return whole[:len(s):len(whole)]
}

// scribble writes over bytes and their spare room.
func scribble(b []byte) {
	b = b[:cap(b)]
	for i := range b {
		b[i] = ^b[i]
	}
}

// 4.15
func TestWhatIsHandedInIsNeitherChangedNorKept(t *testing.T) {
	files := append(make([]api.File, 0, 3), api.File{Name: "a", Data: roomy("1234"), Synced: 2}, api.File{Name: "b", Data: roomy("56")})
	spare := api.File{Name: "spare", Data: []byte("room"), Synced: 1}
	files = append(files, spare)[:2]
	b := roomy("789")
	cuts := []int{2, 1, 7}

	d := load(t, 40, files...)
	mustErr(t, "Append", d.Append("a", b), api.OK)
	mustErr(t, "Append", d.Append("a", b), api.OK)
	mustErr(t, "Flip", d.Flip("b", 0), api.OK)
	if d.Crash(cuts[:2]...) != 2 {
		t.Error("there were two tails")
	}
	mustErr(t, "Append", d.Append("b", b), api.OK)

	want := []api.File{file("a", "1234", 2), file("b", "56", 0), spare}
	for i, f := range files[:3] {
		if whole := f.Data[:cap(f.Data)]; i < 2 && strings.Trim(string(whole[len(f.Data):]), "\xc3") != "" {
			t.Errorf("the spare room behind a file's bytes is %q", whole)
		}
		if text([]api.File{f}) != text(want[i:i+1]) {
			t.Errorf("handed in, and now: %+v", f)
		}
	}
	if string(b[:cap(b)]) != "789"+strings.Repeat("\xc3", 32) || !slices.Equal(cuts, []int{2, 1, 7}) {
		t.Errorf("handed in, and now: %q, %v", b[:cap(b)], cuts)
	}

	scribble(b)
	for i := range files {
		scribble(files[i].Data)
		files[i] = api.File{Name: "z"}
	}
	mustHave(t, d, file("a", "1234", 4), file("b", "4789", 1))
}

// borrowed is a text over bytes that may yet change.
func borrowed(b []byte) string { return unsafe.String(unsafe.SliceData(b), len(b)) }

// 4.15
func TestNamesAreNotKept(t *testing.T) {
	loaded, made, moved := []byte("loaded"), []byte("made"), []byte("moved")
	d := load(t, 9, api.File{Name: borrowed(loaded)}, file("b", "1", 0))
	mustErr(t, "Create", d.Create(borrowed(made)), api.OK)
	mustErr(t, "Rename", d.Rename("b", borrowed(moved)), api.OK)
	for _, b := range [][]byte{loaded, made, moved} {
		scribble(b)
	}
	mustHave(t, d, file("loaded", "", 0), file("made", "", 0), file("moved", "1", 0))
	for _, name := range d.List("") {
		mustErr(t, "Sync "+name, d.Sync(name), api.OK)
	}
}

// 4.7, 4.15
func TestAnswersAreNewMemory(t *testing.T) {
	d := load(t, 90, file("a", "1234", 2), file("b", "56", 0))
	mustErr(t, "Append", d.Append("a", []byte("789")), api.OK)
	want := []api.File{file("a", "1234789", 2), file("b", "56", 0)}
	for range 3 {
		whole, _ := d.Read("a", 0, 7)
		part, _ := d.Read("a", 2, 3)
		none, _ := d.Read("a", 7, 0)
		for _, b := range [][]byte{whole, part, none} {
			scribble(b)
		}
		files := d.Files()
		scribble(files[0].Data)
		if text(files[1:]) != text(want[1:]) {
			t.Errorf("one file's bytes were written over, and the other one is %s", text(files[1:]))
		}
		scribble(files[1].Data)
		clear(files[:cap(files)])
		names := d.List("")
		clear(names[:cap(names)])
		mustHave(t, d, want...)
		if strings.Join(d.List(""), " ") != "a b" {
			t.Errorf("%q", d.List(""))
		}
		mustErr(t, "Append of nothing", d.Append("b", nil), api.OK)
	}
}

// 4.15
func TestEveryCallEndsAndNonePanics(t *testing.T) {
	r := rand.New(rand.NewSource(15))
	names := []string{"", "a", "\x00", "\xff\xfe", strings.Repeat("n", 64), strings.Repeat("n", 65), strings.Repeat("é", 4000)}
	wild := []int{math.MinInt, math.MinInt + 1, -9, -8, -1, 0, 1, 7, 8, 64, math.MaxInt - 1, math.MaxInt}
	whats := []string{"Create", "Append", "Sync", "Rename", "Delete", "Read", "Size", "Flip", "Arm", "Crash"}
	for range 300 {
		d, err := disk.Load(pick(r, wild...), api.File{Name: pick(r, names...), Data: drawBytes(r), Synced: pick(r, wild...)})
		if err != api.OK {
			d = newDisk(t, 9)
		}
		for range 60 {
			c := call{what: pick(r, whats...), name: pick(r, names...), to: pick(r, names...), b: drawBytes(r), at: pick(r, wild...), n: pick(r, wild...)}
			for range r.Intn(4) {
				c.cuts = append(c.cuts, pick(r, wild...))
			}
			ask(d, c)
			d.List(c.name)
			if d.Free() < 0 || d.Free() > d.Capacity() {
				t.Fatalf("behind %v: %d free of %d", c, d.Free(), d.Capacity())
			}
		}
	}
}

// 4.9: lost bytes hold no memory, or a disk would hold many times its capacity.
func TestLostBytesAreNotHeld(t *testing.T) {
	const size = 4 << 20
	d, b := newDisk(t, size), make([]byte, size)
	for i := range 64 {
		name := fmt.Sprint("f", i)
		if d.Create(name) != api.OK || d.Append(name, b) != api.OK || d.Crash() != 1 {
			t.Fatalf("file %d", i)
		}
	}
	var m runtime.MemStats
	runtime.GC()
	runtime.ReadMemStats(&m)
	if m.HeapAlloc > 16*size {
		t.Errorf("%d bytes are held by an empty disk", m.HeapAlloc)
	}
	runtime.KeepAlive(d)
}
