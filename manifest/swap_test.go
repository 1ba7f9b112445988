package manifest_test

import (
	"fmt"
	"math"
	"math/rand"
	"slices"
	"strings"
	"testing"

	"strata/api"
	"strata/disk"
	"strata/manifest"
)

// file is one whose bytes are synced.
func file(name string, data []byte) api.File {
	return api.File{Name: name, Data: data, Synced: len(data)}
}

func tail(name, data string, synced int) api.File {
	return api.File{Name: name, Data: []byte(data), Synced: synced}
}

// next is a version that may follow another one.
func next(v api.Version) api.Version {
	v.Gen++
	v.Flushed++
	v.Next++
	v.Clock++
	return v
}

// 10.4
func TestRunName(t *testing.T) {
	for _, c := range []struct {
		prefix string
		num    int
		want   string
	}{
		{"t0.", 12, "t0.RUN-12"}, {"", 1, "RUN-1"}, {"t0.", 0, "t0.RUN-0"}, {"t0.", -1, "t0.RUN-"},
		{"", math.MinInt, "RUN-"}, {"x", math.MaxInt, "xRUN-9223372036854775807"}, {"a b", 7, "a bRUN-7"},
		{strings.Repeat("p", 99), 1 << 40, strings.Repeat("p", 99) + "RUN-1099511627776"},
	} {
		if got := manifest.RunName(c.prefix, c.num); got != c.want {
			t.Errorf("RunName(%q, %d): %q, want %q", c.prefix, c.num, got, c.want)
		}
	}
}

// calls are the three calls on a disk, by what they answer beside their errors too.
func calls(v api.Version) map[string]func(d *disk.Disk, prefix string) (bool, api.Errno) {
	return map[string]func(d *disk.Disk, prefix string) (bool, api.Errno){
		"Load": func(d *disk.Disk, prefix string) (bool, api.Errno) {
			v, is, err := manifest.Load(d, prefix)
			return is || !isNone(v), err
		},
		"Swap": func(d *disk.Disk, prefix string) (bool, api.Errno) { return false, manifest.Swap(d, prefix, v) },
		"Sweep": func(d *disk.Disk, prefix string) (bool, api.Errno) {
			l, err := manifest.Sweep(d, prefix, v)
			return len(l) > 0, err
		},
	}
}

// 10.4: in this order, ahead of what is wrong with the version or with the bytes on the disk; nothing changes.
func TestWhatIsAskedFirst(t *testing.T) {
	p32, p33 := strings.Repeat("p", 32), strings.Repeat("p", 33)
	wrong := []string{"a b", "\x00", "é", "t0:", p33, strings.Repeat("p", 52), strings.Repeat("p", 53), strings.Repeat("p", 5000), strings.Repeat(" ", 99)}
	for _, v := range []api.Version{small(), gen(9), {Gen: -1}} {
		for what, call := range calls(v) {
			for _, prefix := range append(wrong, "", "t0.", p32) {
				answer, err := call(nil, prefix)
				if mustErr(t, what+" of nil", err, api.ErrArg); answer {
					t.Errorf("%s answers something of nil", what)
				}
				d := load(t, 100, file(prefixed(prefix, "MANIFEST"), []byte("none")), file(prefixed(prefix, "MANIFEST.TMP"), nil))
				was := d.Files()
				d.Arm(1)
				mustErr(t, "Create", d.Create("x"), api.ErrDown)
				answer, err = call(d, prefix)
				if mustErr(t, what+" of a disk that is down", err, api.ErrDown); answer || !sameFiles(d.Files(), was) {
					t.Errorf("%s does something on a disk that is down", what)
				}
			}
			for _, prefix := range wrong {
				d := load(t, 100, file(prefixed(prefix, "MANIFEST"), []byte("none")), file(prefixed(prefix, "MANIFEST.TMP"), nil), file(prefixed(prefix, "RUN-1"), nil))
				was := d.Files()
				answer, err := call(d, prefix)
				if mustErr(t, fmt.Sprintf("%s under %q", what, prefix), err, api.ErrName); answer || !sameFiles(d.Files(), was) || d.Counts() != (api.DiskCounts{}) {
					t.Errorf("%s does something under %q", what, prefix)
				}
			}
		}
	}
}

// prefixed is a name under a prefix, if it may be one, else some other name.
func prefixed(prefix, name string) string {
	if d, _ := disk.New(0); d.Create(prefix+name) != api.OK {
		return "other." + name
	}
	return prefix + name
}

// 10.4: prefixes of all letters that a name may have, and of the greatest length.
func TestPrefixesThatMayBe(t *testing.T) {
	for _, prefix := range []string{"", "t0.", "A/z_9-.", strings.Repeat("p", 32), ".", "MANIFEST", "RUN-"} {
		d := load(t, 1000)
		mustLoad(t, "an empty disk", d, prefix, api.Version{})
		mustErr(t, "Swap", manifest.Swap(d, prefix, small()), api.OK)
		mustLoad(t, prefix, d, prefix, small())
		if l := d.List(""); !slices.Equal(l, []string{prefix + "MANIFEST"}) {
			t.Errorf("under %q: %q", prefix, l)
		}
	}
}

// 10.5
func TestLoad(t *testing.T) {
	for _, v := range []api.Version{small(), full(), largest()} {
		b := encode(t, v)
		for _, f := range []api.File{file("t0.MANIFEST", b), {Name: "t0.MANIFEST", Data: b}} {
			d := load(t, 1<<20, f, tail("t0.MANIFEST.TMP", "none", 1), tail("t0.RUN-77", "x", 0))
			was := d.Files()
			mustLoad(t, "it stands there", d, "t0.", v)
			mustLoad(t, "another tablet", d, "t1.", api.Version{})
			mustLoad(t, "no tablet", d, "", api.Version{})
			if !sameFiles(d.Files(), was) || d.Counts().Acts != 0 {
				t.Error("Load changes something")
			}
		}
	}
}

// 10.5
func TestLoadOfWhatIsNone(t *testing.T) {
	b := encode(t, full())
	for _, data := range [][]byte{nil, b[:1], b[:len(b)-1], append(slices.Clone(b), 0), []byte("none")} {
		d := load(t, 1<<20, file("t0.MANIFEST", data), file("t0.MANIFEST.TMP", b))
		was := d.Files()
		if v, is, err := manifest.Load(d, "t0."); is || err != api.ErrManifest || !isNone(v) {
			t.Errorf("Load of %d bytes: %+v, %v, %d", len(data), v, is, err)
		}
		mustErr(t, "Swap", manifest.Swap(d, "t0.", next(full())), api.ErrManifest)
		if !sameFiles(d.Files(), was) || d.Counts().Acts != 0 {
			t.Error("something changed")
		}
	}
	d := load(t, 1<<20, file("t0.MANIFEST", b))
	for bit := range len(b) * 8 {
		d.Flip("t0.MANIFEST", bit)
		if v, is, err := manifest.Load(d, "t0."); is || err != api.ErrManifest || !isNone(v) {
			t.Fatalf("bit %d is turned: Load: %+v, %v, %d", bit, v, is, err)
		}
		d.Flip("t0.MANIFEST", bit)
	}
	mustLoad(t, "turned back", d, "t0.", full())
}

// 10.5, 10.6: the chapter's examples.
func TestExamplesOfSwaps(t *testing.T) {
	d := load(t, 1<<12)
	two := gen(2)
	two.Flushed = 7
	mustLoad(t, "an empty disk", d, "t0.", api.Version{})
	mustErr(t, "Gen 2 first", manifest.Swap(d, "t0.", gen(2)), api.ErrGen)
	mustErr(t, "Gen 1", manifest.Swap(d, "t0.", small()), api.OK)
	mustErr(t, "Gen 2", manifest.Swap(d, "t0.", two), api.OK)
	mustErr(t, "Gen 2 again", manifest.Swap(d, "t0.", two), api.ErrGen)
	mustLoad(t, "behind them", d, "t0.", two)
}

// 10.6: what refuses a Swap, in its order; nothing changes.
func TestSwapRefused(t *testing.T) {
	good, broken := encode(t, full()), []byte("none")
	bad := next(full())
	bad.Next = 0
	old, same, far, zero := full(), full(), next(next(full())), next(full())
	old.Gen, zero.Gen = 6, 0
	for _, c := range []struct {
		what  string
		stand []byte
		v     api.Version
		want  api.Errno
	}{
		{"no version over a broken one", broken, bad, api.ErrVersion},
		{"no version of no generation", good, zero, api.ErrVersion},
		{"the zero version", good, api.Version{}, api.ErrVersion},
		{"over a broken one, the next generation", broken, next(full()), api.ErrManifest},
		{"over a broken one, the first generation", broken, small(), api.ErrManifest},
		{"over a broken one, another generation", broken, far, api.ErrManifest},
		{"over an empty file", nil, small(), api.ErrManifest},
		{"the same generation", good, same, api.ErrGen},
		{"the generation before", good, old, api.ErrGen},
		{"a generation too far", good, far, api.ErrGen},
		{"the first generation", good, small(), api.ErrGen},
	} {
		// There is no room either: that would be told last.
		d := load(t, len(c.stand)+1, file("t0.MANIFEST", c.stand), tail("t0.MANIFEST.TMP", "x", 0))
		was := d.Files()
		mustErr(t, c.what, manifest.Swap(d, "t0.", c.v), c.want)
		if !sameFiles(d.Files(), was) || d.Counts().Acts != 0 {
			t.Errorf("%s: something changed", c.what)
		}
	}
	d := load(t, 1000)
	for _, n := range []int{2, 3, 1 << 40} {
		mustErr(t, "where there is none", manifest.Swap(d, "t0.", gen(n)), api.ErrGen)
	}
	if d.Counts().Acts != 0 || len(d.Files()) != 0 {
		t.Error("something changed")
	}
}

// 10.6: up to the last generation.
func TestTheLastGeneration(t *testing.T) {
	d := load(t, 1000, file("MANIFEST", encode(t, gen(1<<40-1))))
	mustErr(t, "the last one", manifest.Swap(d, "", gen(1<<40)), api.OK)
	mustErr(t, "one more", manifest.Swap(d, "", gen(1<<40+1)), api.ErrVersion)
	mustErr(t, "the last one again", manifest.Swap(d, "", gen(1<<40)), api.ErrGen)
	mustErr(t, "the first one", manifest.Swap(d, "", gen(1)), api.ErrGen)
	mustLoad(t, "behind them", d, "", gen(1<<40))
}

// 10.6: the acts, one after the other: the state in which power fails is that of the acts ahead, and of the Append itself.
func TestTheActsOfASwap(t *testing.T) {
	v := next(full())
	b, name := encode(t, v), "t0.MANIFEST.TMP"
	stand, left := file("t0.MANIFEST", encode(t, full())), tail(name, "left over", 4)
	others := []api.File{tail("a", "xyz", 1), tail("t0.RUN-9", "xyz", 2), tail("t1.MANIFEST.TMP", "xyz", 0)}
	states := [][]api.File{
		{stand, left},                  // at the Delete
		{stand},                        // at the Create
		{stand, {Name: name, Data: b}}, // at the Append
		{stand, {Name: name, Data: b}}, // at the Sync
		{stand, file(name, b)},         // at the Rename
		{file("t0.MANIFEST", b)},       // nowhere
	}
	for first := range 2 {
		for n := first; n < len(states); n++ {
			d := load(t, 1<<12, append(states[first], others...)...)
			d.Arm(n + 1 - first)
			want := api.ErrDown
			if n == len(states)-1 {
				want = api.OK
			}
			what := fmt.Sprintf("acts from %d on, power fails at %d", first, n)
			mustErr(t, what, manifest.Swap(d, "t0.", v), want)
			if twin := load(t, 1<<12, append(states[n], others...)...); d.Down() != (want == api.ErrDown) || !sameFiles(d.Files(), twin.Files()) {
				t.Errorf("%s: %+v", what, d.Files())
			}
		}
	}
}

// 10.6
func TestTheCountsOfASwap(t *testing.T) {
	for _, c := range []struct {
		files    []api.File
		capacity int
		err      api.Errno
		want     api.DiskCounts
	}{
		{nil, 999, api.OK, api.DiskCounts{Acts: 4, Appends: 1, Syncs: 1, Renames: 1}},
		{[]api.File{tail("MANIFEST.TMP", "", 0)}, 999, api.OK, api.DiskCounts{Acts: 5, Appends: 1, Syncs: 1, Renames: 1, Deletes: 1}},
		{nil, 26, api.ErrFull, api.DiskCounts{Acts: 2, Deletes: 1}},
		{[]api.File{tail("MANIFEST.TMP", "xy", 1)}, 26, api.ErrFull, api.DiskCounts{Acts: 3, Deletes: 2}},
		{[]api.File{tail("MANIFEST.TMP", "xy", 1)}, 27, api.OK, api.DiskCounts{Acts: 5, Appends: 1, Syncs: 1, Renames: 1, Deletes: 1}},
	} {
		d := load(t, c.capacity, c.files...)
		mustErr(t, "Swap", manifest.Swap(d, "", small()), c.err)
		if got := d.Counts(); got != c.want {
			t.Errorf("%d bytes, files %v: %+v, want %+v", c.capacity, c.files, got, c.want)
		}
	}
}

// 10.6: without room the old version stands, and nothing is left of the new one; what was left over is gone.
func TestNoRoom(t *testing.T) {
	old, v := full(), next(full())
	stand := file("t0.MANIFEST", encode(t, old))
	size := len(stand.Data) + len(encode(t, v))
	for room := len(stand.Data); room < size; room += 7 {
		for _, left := range [][]api.File{nil, {tail("t0.MANIFEST.TMP", "", 0)}} {
			d := load(t, room, append(left, stand)...)
			mustErr(t, "Swap", manifest.Swap(d, "t0.", v), api.ErrFull)
			if d.Down() || !sameFiles(d.Files(), []api.File{stand}) {
				t.Fatalf("room for %d: %+v", room, d.Files())
			}
			mustLoad(t, "without room", d, "t0.", old)
		}
	}
	d := load(t, size, stand)
	mustErr(t, "with just the room", manifest.Swap(d, "t0.", v), api.OK)
	mustLoad(t, "with just the room", d, "t0.", v)
}

// 10.6: power fails at the Delete that undoes: the want of room is told.
func TestNoRoomAndPowerFails(t *testing.T) {
	old := full()
	stand := file("t0.MANIFEST", encode(t, old))
	for n, c := range []struct {
		err  api.Errno
		down bool
		left int
	}{{api.ErrFull, false, 1}, {api.ErrDown, true, 1}, {api.ErrFull, true, 2}, {api.ErrFull, false, 1}} {
		d := load(t, len(stand.Data)+9, stand)
		d.Arm(n)
		mustErr(t, fmt.Sprint("armed with ", n), manifest.Swap(d, "t0.", next(old)), c.err)
		if l := d.List(""); d.Down() != c.down || len(l) != c.left {
			t.Errorf("armed with %d: down %v, %q", n, d.Down(), l)
		}
		d.Crash(3)
		mustLoad(t, "behind the crash", d, "t0.", old)
	}
}

// 10.6: as many files as a disk has.
func TestNoFileMore(t *testing.T) {
	var files []api.File
	for i := range api.MaxFiles - 1 {
		files = append(files, tail(fmt.Sprint("f", i), "x", i%2))
	}
	full := load(t, 1000, append(files, tail("g", "", 0))...)
	was := full.Files()
	mustErr(t, "Swap", manifest.Swap(full, "", small()), api.ErrFiles)
	if !sameFiles(full.Files(), was) || full.Counts().Acts != 0 {
		t.Error("something changed")
	}
	freed := load(t, 1000, append(files, tail("MANIFEST.TMP", "", 0))...)
	mustErr(t, "with the place of the TMP file", manifest.Swap(freed, "", small()), api.OK)
	mustLoad(t, "with the place of the TMP file", freed, "", small())
}

// 10.8: power fails at any act, and the tails are cut anywhere.
func TestAtOneStroke(t *testing.T) {
	for _, old := range []api.Version{{}, full()} {
		for _, left := range [][]api.File{nil, {tail("t0.MANIFEST.TMP", "left over", 4)}} {
			files := slices.Clone(left)
			v := small()
			if !isNone(old) {
				files = append(files, file("t0.MANIFEST", encode(t, old)))
				v = next(old)
			}
			size := len(encode(t, v))
			for n := 1; n <= 6; n++ {
				for cut := -1; cut <= size+1; cut++ {
					d := load(t, 1<<12, files...)
					strike(t, d, n, cut, old, v)
				}
			}
		}
	}
}

// strike lets power fail at an act of a Swap, and cuts the tail.
func strike(t *testing.T, d *disk.Disk, n, cut int, old, v api.Version) {
	t.Helper()
	what := fmt.Sprintf("act %d, %d bytes of the tail", n, cut)
	d.Arm(n)
	err := manifest.Swap(d, "t0.", v)
	d.Crash(cut)
	switch err {
	case api.OK:
		mustLoad(t, what, d, "t0.", v)
	case api.ErrDown:
		mustLoad(t, what, d, "t0.", old)
		mustErr(t, what+": again", manifest.Swap(d, "t0.", v), api.OK)
		d.Crash()
		mustLoad(t, what+": again", d, "t0.", v)
	default:
		t.Fatalf("%s: Swap: %d", what, err)
	}
	if (err == api.OK) != (n == 6 || n == 5 && d.Counts().Deletes == 0) {
		t.Fatalf("%s: %d", what, err)
	}
}

// 10.8: many Swaps on a disk that was new, of two tablets, with power that fails and room that is short.
func TestLongLifeOfAManifest(t *testing.T) {
	r := rand.New(rand.NewSource(108))
	for range 150 {
		d, _ := disk.New(150 + r.Intn(2000))
		prefixes := []string{"t0.", "t1."}
		stand := make([]api.Version, 2)
		for range 40 {
			i := r.Intn(2)
			v := draw(r)
			v.Gen = stand[i].Gen + 1
			d.Arm(r.Intn(12))
			switch err := manifest.Swap(d, prefixes[i], v); err {
			case api.OK:
				stand[i] = v
			case api.ErrDown, api.ErrFull:
			default:
				t.Fatalf("Swap: %d", err)
			}
			if d.Down() || r.Intn(3) == 0 {
				d.Crash(r.Intn(90)-1, r.Intn(90)-1)
			}
			for j, prefix := range prefixes {
				mustLoad(t, "a long life", d, prefix, stand[j])
			}
		}
	}
}
