package squash_test

import (
	"fmt"
	"slices"
	"testing"

	"strata/api"
	"strata/disk"
	"strata/squash"
	"strata/tree"
)

// turning: so many acts has a Replace up to the version's being the new one: three for the run, four for the manifest.
const turning = 7

// 12.5, 12.11: power fails at each act of Finish: up to the manifest's turn the old runs count, and it is told. Behind that the job's own view lets the old files go, which tells nothing.
func TestPowerFailsWithinFinish(t *testing.T) {
	old := "3: fam a 3/50, put b 8/49, col 6/48; 2: cell 7/33, put 6/32; 1: put a 5/18, put 9/16, put 7/17"
	fresh := "3: fam a 3/50, put b 8/49, col 6/48; 4: put a 5/18, put 9/16, husk 7/33"
	for n := 1; n <= turning+3; n++ {
		longest := 0
		for cut := 0; cut <= longest; cut++ {
			what := fmt.Sprintf("power fails at %d, %d bytes are left", n, cut)
			d, x := three(t, 0)
			j := start(t, x, false, 2, 1)
			j.Step(3)
			d.Arm(n)
			got, err := j.Finish()
			want, runs, after := api.ErrDown, []int{3, 2, 1}, old
			told := api.Squashed{}
			if n > turning {
				want, runs, after = api.OK, []int{3, 4}, fresh
				told = api.Squashed{In: 5, Out: 3, Dropped: api.Dropped{Older: 1, Above: 1}, Clock: 12, Low: 2}
			}
			if got != told || err != want || !slices.Equal(numsOf(x.Runs()), runs) {
				t.Fatalf("%s: %+v, %d, %v", what, got, err, x.Runs())
			}
			if d.Down() != (n <= turning+2) {
				t.Fatalf("%s: down %v", what, d.Down())
			}
			mustHaveEnded(t, what, x, j, 0)
			for _, f := range d.Files() {
				longest = max(longest, len(f.Data)-f.Synced)
			}
			d.Crash(cut)
			y := open(t, d, two(0))
			if got := shown(t, y); got != after {
				t.Fatalf("%s: %s, want %s", what, got, after)
			}
			if len(d.List("tRUN-")) != len(y.Runs()) {
				t.Fatalf("%s: %q", what, d.List(""))
			}
		}
	}
}

// 12.5, 12.11: the disk goes down while a job is under way: it goes on reading, and Finish says so; Abort lets its view go.
func TestDownMeanwhile(t *testing.T) {
	for _, ends := range []func(j *squash.Job) api.Errno{
		func(j *squash.Job) api.Errno { _, err := j.Finish(); return err },
		func(j *squash.Job) api.Errno { j.Abort(); return api.ErrDown },
	} {
		d, x := three(t, 0)
		was := d.Files()
		j := start(t, x, true, 3, 2, 1)
		j.Step(1)
		d.Arm(1)
		mustErr(t, "Create", d.Create("other"), api.ErrDown)
		if all, err := j.Step(2); all || err != api.OK {
			t.Errorf("Step: %v, %d", all, err)
		}
		if all, err := j.Run(nil, 1); !all || err != api.OK {
			t.Errorf("Run: %v, %d", all, err)
		}
		mustErr(t, "its end", ends(j), api.ErrDown)
		mustHaveEnded(t, "down", x, j, 0)
		if !sameFiles(d.Files(), was) || len(x.Runs()) != 3 {
			t.Errorf("%q, %v", names(d.Files()), x.Runs())
		}
	}
}

// 12.5, 12.11: in every room that is too small, and where there are too many files, all is as it was, and the tree goes on.
func TestNoRoom(t *testing.T) {
	big, x := three(t, 0)
	used, files := big.Capacity()-big.Free(), big.Files()
	mustErr(t, "Finish", finish(start(t, x, true, 3, 2, 1)), api.OK)
	want := shown(t, x)
	full := 0
	for room := 0; ; room++ {
		d, err := disk.Load(used+room, files...)
		mustErr(t, "Load", err, api.OK)
		x := open(t, d, two(0))
		j := start(t, x, true, 3, 2, 1)
		err = finish(j)
		if err == api.OK {
			if got := shown(t, x); got != want {
				t.Errorf("%s, want %s", got, want)
			}
			break
		}
		full++
		mustErr(t, fmt.Sprintf("room for %d", room), err, api.ErrFull)
		mustBeAsBefore(t, d, x, j, files)
	}
	if full < 100 {
		t.Errorf("only %d rooms were too small", full)
	}
	for spare := range 3 {
		many := slices.Clone(files)
		for i := len(files); i < 256-spare; i++ {
			many = append(many, api.File{Name: fmt.Sprint("x", i)})
		}
		d, err := disk.Load(1<<20, many...)
		mustErr(t, "Load", err, api.OK)
		many = d.Files()
		x := open(t, d, two(0))
		j := start(t, x, true, 3, 2, 1)
		if spare == 2 {
			mustErr(t, "room for two files", finish(j), api.OK)
			continue
		}
		mustErr(t, "too many files", finish(j), api.ErrFiles)
		mustBeAsBefore(t, d, x, j, many)
	}
}

func finish(j *squash.Job) api.Errno {
	_, err := j.Finish()
	return err
}

// mustBeAsBefore: the disk has these files, the job has ended, and the tree takes a command, another job too.
func mustBeAsBefore(t *testing.T, d *disk.Disk, x *tree.Tree, j *squash.Job, files []api.File) {
	t.Helper()
	mustHaveEnded(t, "no room", x, j, 0)
	if !sameFiles(d.Files(), files) || !slices.Equal(numsOf(x.Runs()), []int{3, 2, 1}) {
		t.Fatalf("%q, %v", names(d.Files()), x.Runs())
	}
	mustErr(t, "Apply", x.Apply(4, 12, 2), api.OK)
	start(t, x, false, 2).Abort()
}

// 12.5: what stays may be too much for one run.
func TestTooMuchForOneRun(t *testing.T) {
	d := newDisk(t, 1<<26)
	x, err := tree.Open(d, "t", two(0), api.Options{Block: 65536, Bits: 10, Mem: 1 << 22, Stall: 64})
	mustErr(t, "Open", err, api.OK)
	for range 2 {
		for _, size := x.Mem(); size < 9<<20; _, size = x.Mem() {
			index := x.Applied() + 1
			var l []api.Entry
			for op := range 16 {
				e := entry(fmt.Sprintf("put %d 5/%d", index, 16*index+op))
				e.Qual, e.Value = []byte{byte(op)}, make([]byte, 4096)
				l = append(l, e)
			}
			mustErr(t, "Apply", x.Apply(index, 9, 0, l...), api.OK)
		}
		mustErr(t, "Flush", x.Flush(nil), api.OK)
	}
	was := d.Files()
	j := start(t, x, true, 1, 2)
	mustErr(t, "Finish", finish(j), api.ErrLong)
	mustHaveEnded(t, "too much", x, j, 0)
	if !sameFiles(d.Files(), was) || len(x.Runs()) != 2 {
		t.Errorf("%q, %d runs", names(d.Files()), len(x.Runs()))
	}
}

// 12.5: another tree has turned the manifest: Replace's error is Finish's.
func TestReplaceRefuses(t *testing.T) {
	d, x := three(t, 0)
	j := start(t, x, false, 1, 2)
	mustErr(t, "Flush", open(t, d, two(0)).Flush(nil), api.OK)
	was := d.Files()
	mustErr(t, "Finish", finish(j), api.ErrGen)
	mustHaveEnded(t, "refused", x, j, 0)
	if !sameFiles(d.Files(), was) {
		t.Errorf("%q", names(d.Files()))
	}
}
