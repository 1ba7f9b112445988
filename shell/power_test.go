package shell_test

import (
	"fmt"
	"strings"
	"testing"
)

// 20.4: while the disk is down, lines that need it say so; those that tell what is known answer.
func TestDown(t *testing.T) {
	x := threeRuns(t)
	put(t, x, "d", "v")
	do(t, x, "backup")
	files := x.Do("files")
	play(t, x, turn{"arm 1", "ok"}, turn{"flush", "error 3"})
	for _, line := range []string{"flush", "compact major", "compact minor", "dump 0", "dump 99", "digest", "verify 1", "backup", `get "" "" 1 9 0`, `ask 0 0 "" "" 1 9 0`, "session", "tick 1", "advance 0", `mutate 0 0 "r" put f "q" 0 ""`, "end 1 1"} {
		play(t, x, turn{line, "error 3"})
	}
	runs := x.Do("runs")
	play(t, x, turn{"stat", "ok 4 3 1 0 0 1 29 3 0"}, turn{"arm 1", "ok"}, turn{"step 1", "error 122"}, turn{"verify 0", "error 1"}, turn{`flip "none" 1`, "error 42"}, turn{"files", files}, turn{"tick 0", "error 148"}, turn{`get "" "" 0 9 0`, "error 130"})
	if len(strings.Fields(runs)) != 4 {
		t.Error(runs)
	}
	play(t, x, turn{"close", "ok"}, turn{openLine, "error 3"}, turn{"restore", "error 3"}, turn{"files", files}, turn{"crash", "ok 0"}, turn{openLine, "ok 3 1 0"}, turn{"runs", runs})
}

// 20.4: arm with a number that is none disarms.
func TestArm(t *testing.T) {
	for _, n := range []string{"0", "-1", "-9223372036854775808"} {
		x := threeRuns(t)
		play(t, x, turn{"arm 1", "ok"}, turn{"arm " + n, "ok"}, turn{"flush", "ok"})
	}
	x := threeRuns(t)
	// A flush without an entry is four acts: those of the manifest.
	play(t, x, turn{"arm 5", "ok"}, turn{"flush", "ok"}, turn{"flush", "error 3"})
}

// 20.4: a crash cuts the tails as its numbers say, tells how many there were, and leaves nothing open.
func TestCrash(t *testing.T) {
	for _, c := range []struct {
		cuts string
		left int
	}{{"", 0}, {" 0", 0}, {" -5", 0}, {" 1", 1}, {" 7 9 9", 7}, {" 9223372036854775807", 1 << 30}} {
		x := opened(t)
		put(t, x, "a", "v")
		play(t, x, turn{"arm 2", "ok"}, turn{"flush", "error 3"})
		size := len(fileOf(t, x, "k.RUN-1").Data)
		play(t, x, turn{"crash" + c.cuts, "ok 1"}, turn{"stat", "error 203"}, turn{"files", fmt.Sprintf("ok k.RUN-1:%d", min(size, c.left))}, turn{"crash" + c.cuts, "ok 0"}, turn{openLine, "ok 0 1 0"}, turn{"files", "ok"})
	}
	// Also while it is up, and with nothing open; the schema and the backup stay.
	x := threeRuns(t)
	do(t, x, "backup")
	play(t, x, turn{"crash 3", "ok 0"}, turn{"crash", "ok 0"}, turn{"table f 1 0", "error 203"}, turn{"restore", "error 110"}, turn{openLine, "ok 3 1 0"})
}

// 20.4, W4: wherever power fails within a flush or a compaction, and whatever is cut: the table is as it was, or as it was to be.
func TestPowerFailsAnywhere(t *testing.T) {
	for _, cut := range []string{"0", "1", "30", "99999"} {
		flushed, done := false, false
		for n := 1; !flushed || !done; n++ {
			x := threeRuns(t)
			put(t, x, "d", "v")
			play(t, x, turn{fmt.Sprint("arm ", n), "ok"})
			answer := x.Do("flush")
			flushed = answer == "ok"
			x.Do("crash " + cut)
			got := x.Do(openLine)
			if got != "ok 3 1 0" && got != "ok 4 1 0" || flushed && got != "ok 4 1 0" {
				t.Fatalf("arm %d, crash %s: %s, %s", n, cut, answer, got)
			}
			before := x.Do("digest") + x.Do(`get "" "" 1 9 0`)
			play(t, x, turn{"compact major", "ok " + strings.Join(nums(x), " ")}, turn{fmt.Sprint("arm ", n), "ok"})
			answer = x.Do("finish")
			down := x.Do("backup") == "error 3"
			done = !down
			x.Do("crash " + cut)
			play(t, x, turn{openLine, got})
			if after := x.Do("digest") + x.Do(`get "" "" 1 9 0`); after != before {
				t.Fatalf("arm %d, crash %s: %s, %s", n, cut, answer, after)
			}
			if l := nums(x); len(l) != 1 && answer != "error 3" || n > 50 {
				t.Fatalf("arm %d: finish answers %s: runs %v", n, answer, l)
			}
		}
	}
}

// nums are those of the runs, the newest first.
func nums(x interface{ Do(string) string }) []string {
	var out []string
	for _, r := range strings.Fields(x.Do("runs"))[1:] {
		num, _, _ := strings.Cut(r, ":")
		out = append(out, num)
	}
	return out
}

// 20.4, W7: each bit that is turned over in a run is told by verify and by open; turned over again it is as it was. An open table goes on by what it read.
func TestFlip(t *testing.T) {
	x := threeRuns(t)
	play(t, x, turn{`flip "" 0`, "error 40"}, turn{`flip "a b" 0`, "error 40"}, turn{`flip "k.RUN-9" 0`, "error 42"}, turn{`flip "k.RUN-2" -1`, "error 43"})
	size := len(fileOf(t, x, "k.RUN-2").Data)
	play(t, x, turn{fmt.Sprintf(`flip "k.RUN-2" %d`, 8*size), "error 43"}, turn{"verify 4", "ok"})
	before := x.Do("digest")
	for bit := range 8 * size {
		line := fmt.Sprintf(`flip "k.RUN-2" %d`, bit)
		was := fileOf(t, x, "k.RUN-2").Data[bit/8]
		play(t, x, turn{line, "ok"}, turn{"verify 1", "error 117"}, turn{"verify 16", "error 117"}, turn{"digest", before})
		if is := fileOf(t, x, "k.RUN-2").Data[bit/8]; is != was^1<<(bit%8) {
			t.Fatalf("bit %d: %x, was %x", bit, is, was)
		}
		play(t, x, turn{"close", "ok"}, turn{openLine, "error 117"}, turn{"stat", "error 203"}, turn{line, "ok"}, turn{openLine, "ok 3 1 0"}, turn{"verify 1", "ok"}, turn{"digest", before})
	}
	do(t, x, "close")
	for bit := range 8 * len(fileOf(t, x, "k.MANIFEST").Data) {
		line := fmt.Sprintf(`flip "k.MANIFEST" %d`, bit)
		play(t, x, turn{line, "ok"}, turn{openLine, "error 100"}, turn{line, "ok"})
	}
	play(t, x, turn{openLine, "ok 3 1 0"})
}
