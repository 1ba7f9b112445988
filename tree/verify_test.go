package tree_test

import (
	"fmt"
	"math"
	"slices"
	"testing"

	"strata/api"
	"strata/disk"
	"strata/tree"
)

func mustVerify(t *testing.T, what string, x *tree.Tree, want int) {
	t.Helper()
	for workers := 1; workers <= 16; workers++ {
		n, err := x.Verify(workers)
		if n != want || (err == api.OK) != (want == 0) || err != api.OK && err != api.ErrUnsound {
			t.Fatalf("%s: Verify(%d): %d, %d, want %d", what, workers, n, err, want)
		}
	}
}

// spoil turns a bit of a run's file over, or takes the file away.
func spoil(d *disk.Disk, num, bit int) {
	name := fmt.Sprint("tRUN-", num)
	if bit < 0 {
		d.Delete(name)
	} else {
		d.Flip(name, bit)
	}
}

// 11.14: whichever runs are spoilt, the newest of them is told, by any number of workers.
func TestVerify(t *testing.T) {
	mustVerify(t, "a new tree", open(t, newDisk(t, 0), "t"), 0)
	for _, count := range []int{1, 2, 5, 16, 17, 40, 64} {
		d := newDisk(t, 1<<20)
		x := open(t, d, "t")
		for i := 1; i <= count; i++ {
			mustErr(t, "Apply", x.Apply(i, 5, 0, p("a", 3, i)), api.OK)
			mustErr(t, "Flush", x.Flush(nil), api.OK)
		}
		mustErr(t, "Apply", x.Apply(count+1, 5, 0, p("a", 3, count+1)), api.OK)
		mustVerify(t, "all are sound", x, 0)
		nums := []int{1}
		for n := 3; n <= count; n += 7 {
			nums = append(nums, n)
		}
		nums = append(nums, count)
		for i, n := range slices.Compact(nums) {
			spoil(d, n, []int{-1, 100, 200, 3}[i%4])
			mustVerify(t, fmt.Sprintf("%d of %d", n, count), x, n)
			if x.Applied() != count+1 || len(x.Runs()) != count {
				t.Fatal("Verify changed something")
			}
			if v := pin(t, x); len(walk(t, v, "", "")) != count+1 {
				t.Fatal("a view reads what is on the disk")
			} else {
				v.Release()
			}
		}
	}
}

// 11.14: the disk is read, and nothing is written.
func TestVerifyReadsAnew(t *testing.T) {
	d, x, m := three(t)
	before := d.Counts()
	if n, err := x.Verify(2); n != 0 || err != api.OK {
		t.Errorf("%d, %d", n, err)
	}
	if after := d.Counts(); after.Reads != before.Reads+3 || after.Acts != before.Acts {
		t.Errorf("%+v behind %+v", after, before)
	}
	for bit := range 8 * m.runs[1].meta.Bytes {
		d.Flip("tRUN-2", bit)
		if n, err := x.Verify(1 + bit%16); n != 2 || err != api.ErrUnsound {
			t.Fatalf("bit %d: %d, %d", bit, n, err)
		}
		d.Flip("tRUN-2", bit)
	}
	mustVerify(t, "turned back", x, 0)
	for _, data := range [][]byte{nil, m.runs[0].data, m.runs[2].data, append(slices.Clone(m.runs[1].data), 0), pieceOf(t, options(), 2, 2, 2, 7, []api.Entry{p("ac", 6, 2)}).data} {
		d.Delete("tRUN-2")
		d.Create("tRUN-2")
		d.Append("tRUN-2", data)
		mustVerify(t, "another run's bytes", x, 2)
	}
}

// 11.14
func TestVerifyRefuses(t *testing.T) {
	d, x, _ := three(t)
	d.Delete("tRUN-2")
	for _, workers := range []int{math.MinInt, -1, 0, 17, math.MaxInt} {
		if n, err := x.Verify(workers); n != 0 || err != api.ErrArg {
			t.Errorf("Verify(%d): %d, %d", workers, n, err)
		}
	}
	d.Arm(1)
	d.Create("x")
	for _, workers := range []int{0, 17} {
		if n, err := x.Verify(workers); n != 0 || err != api.ErrArg {
			t.Errorf("down: Verify(%d): %d, %d", workers, n, err)
		}
	}
	for _, workers := range []int{1, 16} {
		if n, err := x.Verify(workers); n != 0 || err != api.ErrDown {
			t.Errorf("down: Verify(%d): %d, %d", workers, n, err)
		}
	}
}
