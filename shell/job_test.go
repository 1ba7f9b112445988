package shell_test

import (
	"fmt"
	"strings"
	"testing"
)

// 20.4: a job from its beginning to its end; while it is open no other one begins.
func TestJob(t *testing.T) {
	x := threeRuns(t)
	play(t, x,
		turn{"compact major", "ok 3 2 1"}, turn{"stat", "ok 3 3 1 0 0 0 0 3 1"}, turn{"compact major", "error 182"}, turn{"compact minor", "error 182"},
		turn{"step 0", "ok more"}, turn{"step -1", "ok more"}, turn{"step 1", "ok more"}, turn{"step 1", "ok more"}, turn{"compact minor", "error 182"}, turn{"step 1", "ok all"}, turn{"step 1", "ok all"},
		turn{"stat", "ok 3 3 1 0 0 0 0 3 1"}, turn{"finish", "ok 3 3 0 0 0 0 0"},
		turn{"stat", "ok 3 3 1 0 0 0 0 1 0"}, turn{"finish", "error 122"}, turn{"step 1", "error 122"}, turn{"abort", "error 122"},
		turn{"dump 4", `ok 1 "a" f "q" 1 16 "v", 1 "b" f "q" 1 32 "v", 1 "c" f "q" 1 48 "v"`},
		turn{"compact major", "ok 4"}, turn{"finish", "ok 3 3 0 0 0 0 0"}, turn{"compact minor", "ok none"},
	)
	if got := x.Do("files"); strings.Count(got, "RUN") != 1 || !strings.Contains(got, " k.RUN-5:") {
		t.Error(got)
	}
}

// 20.4: finish goes through what is left, and tells what it dropped, and why.
func TestFinishCounts(t *testing.T) {
	x := begin(t, 1<<20)
	play(t, x, turn{"table f 2 0 , g 1 3", "ok"}, turn{openLine, "ok 0 1 0"}, turn{"tick 9", "ok 10"},
		turn{`mutate 0 0 "a" put f "q" 1 "1" put f "q" 2 "2" put f "q" 3 "3" put f "q" 3 "4"`, "ok yes 0"}, // of 3 the older, and 1 above Max
		turn{`mutate 0 0 "a" put f "p" 4 "" put f "p" 5 "" col f "p" 5`, "ok yes 0"},                       // two masked
		turn{`mutate 0 0 "a" put g "q" 7 "" put g "q" 8 "" put g "p" 1 "" put g "o" 7 ""`, "ok yes 0"},     // three expired
		turn{`mutate 0 0 "a" cell f "z" 9 col f "y" 9 col f "y" 8 fam f 0`, "ok yes 0"},                    // marks; and that of the family masks all
		turn{"flush", "ok"}, turn{"advance 8", "ok 8"}, turn{"flush", "ok"},
		turn{"compact major", "ok 1"}, turn{"finish", "ok 15 2 1 6 3 0 3"},
		turn{"dump 2", `ok 5 "a" f "" 10 83 "", 1 "a" g "q" 8 65 ""`},
	)
}

// 20.4: minor takes what the policy picks; all runs of one tier are a major job.
func TestMinor(t *testing.T) {
	x := opened(t)
	play(t, x, turn{"compact minor", "ok none"}, turn{"compact major", "ok none"})
	put(t, x, "a", strings.Repeat("v", 4000))
	play(t, x, turn{"flush", "ok"}, turn{"compact minor", "ok none"})
	for _, row := range []string{"b", "c"} {
		play(t, x, turn{fmt.Sprintf(`mutate 0 0 %q cell f "q" 0 col f "p" 0`, row), "ok yes 0"}, turn{"flush", "ok"})
	}
	// The great one is of another tier: so the tombstones stay.
	play(t, x, turn{"tick 5", "ok 6"}, turn{"advance 5", "ok 5"}, turn{"flush", "ok"}, turn{"compact minor", "ok 3 2"}, turn{"finish", "ok 4 4 0 0 0 0 0"}, turn{"compact minor", "ok none"}, turn{"compact major", "ok 4 1"}, turn{"finish", "ok 5 1 0 0 0 0 4"})
	// Now there is one tier.
	put(t, x, "d", strings.Repeat("v", 4000))
	play(t, x, turn{`mutate 0 0 "b" cell f "q" 0 col f "p" 0`, "ok yes 0"}, turn{"tick 5", "ok 11"}, turn{"advance 10", "ok 10"}, turn{"flush", "ok"}, turn{"compact minor", "ok 6 5"}, turn{"finish", "ok 4 2 0 0 0 0 2"})
	if got := strings.Fields(x.Do("runs")); len(got) != 2 || !strings.HasPrefix(got[1], "7:2:9:10:11:") {
		t.Error(got)
	}
}

// runBytes is how many bytes the run of a put of so many has.
func runBytes(t *testing.T, n int) int {
	x := opened(t)
	put(t, x, "a", strings.Repeat("v", n))
	do(t, x, "flush")
	return len(fileOf(t, x, "k.RUN-1").Data)
}

// 20.4: minor has Width 2, Ratio 4 and Most 8.
func TestMinorsPolicy(t *testing.T) {
	n := 0
	for runBytes(t, n) < 4*runBytes(t, 1) {
		n++
	}
	for more, want := range []string{"ok 2 1", "ok none"} {
		x := opened(t)
		put(t, x, "a", "v")
		do(t, x, "flush")
		put(t, x, "b", strings.Repeat("v", n+more))
		do(t, x, "flush")
		if got := len(fileOf(t, x, "k.RUN-2").Data); got != 4*runBytes(t, 1)+more {
			t.Errorf("a run of %d bytes", got)
		}
		play(t, x, turn{"compact minor", want})
	}
	x := threeRuns(t)
	play(t, x, turn{"compact minor", "ok 2 1"}, turn{"abort", "ok"})
	for i := range 6 {
		put(t, x, fmt.Sprint("r", i), "v")
		play(t, x, turn{"flush", "ok"}, turn{"compact minor", []string{"ok 2 1", "ok 9 8 7 6 5 4 3 2 1"}[i/5]}, turn{"abort", "ok"})
	}
}

// 20.4: flush, close and crash end a job; so does abort.
func TestWhatEndsAJob(t *testing.T) {
	for _, c := range []struct {
		line, want string
		open       bool
	}{{"abort", "ok", true}, {"flush", "ok", true}, {"close", "ok", false}, {"crash", "ok 0", false}} {
		x := threeRuns(t)
		play(t, x, turn{"compact major", "ok 3 2 1"}, turn{"step 2", "ok more"}, turn{c.line, c.want})
		if !c.open {
			play(t, x, turn{"step 1", "error 203"}, turn{openLine, "ok 3 1 0"})
		}
		play(t, x, turn{"stat", "ok 3 3 1 0 0 0 0 3 0"}, turn{"step 1", "error 122"}, turn{"finish", "error 122"}, turn{"abort", "error 122"}, turn{"compact major", "ok 3 2 1"}, turn{"finish", "ok 3 3 0 0 0 0 0"})
	}
}

// 20.4: a flush that is refused has ended the job nevertheless; that is done first.
func TestAbortsFirst(t *testing.T) {
	x := threeRuns(t)
	put(t, x, "d", "v")
	play(t, x, turn{"compact major", "ok 3 2 1"}, turn{"arm 1", "ok"}, turn{"flush", "error 3"}, turn{"stat", "ok 4 3 1 0 0 1 29 3 0"}, turn{"step 1", "error 122"}, turn{"compact major", "error 3"}, turn{"finish", "error 122"})
}

// 20.4: a job whose finish is refused is open no more; nothing has changed.
func TestFinishThatIsRefused(t *testing.T) {
	x := begin(t, 1500)
	play(t, x, turn{"table f 2 0", "ok"}, turn{openLine, "ok 0 1 0"})
	for _, row := range []string{"a", "b"} {
		put(t, x, row, strings.Repeat("v", 200))
		do(t, x, "flush")
	}
	before := x.Do("files") + x.Do("runs")
	play(t, x, turn{"compact major", "ok 2 1"}, turn{"finish", "error 4"}, turn{"finish", "error 122"}, turn{"stat", "ok 2 2 1 0 0 0 0 2 0"}, turn{"compact minor", "ok 2 1"}, turn{"abort", "ok"})
	if after := x.Do("files") + x.Do("runs"); after != before {
		t.Errorf("%s, before %s", after, before)
	}
	// Power fails at the new run's sync, and its bytes go with it.
	x = threeRuns(t)
	play(t, x, turn{"compact major", "ok 3 2 1"}, turn{"arm 3", "ok"}, turn{"finish", "error 3"}, turn{"finish", "error 122"}, turn{"compact major", "error 3"}, turn{"crash", "ok 1"}, turn{openLine, "ok 3 1 0"}, turn{"stat", "ok 3 3 1 0 0 0 0 3 0"})
	// At the deletes of the old ones it is done.
	x = threeRuns(t)
	play(t, x, turn{"compact major", "ok 3 2 1"}, turn{"arm 8", "ok"}, turn{"finish", "ok 3 3 0 0 0 0 0"}, turn{"digest", "error 3"}, turn{"stat", "ok 3 3 1 0 0 0 0 1 0"}, turn{"crash", "ok 0"}, turn{openLine, "ok 3 1 0"})
	if got := x.Do("files"); strings.Count(got, "RUN") != 1 {
		t.Error(got)
	}
}
