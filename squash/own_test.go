package squash_test

import (
	"math"
	"math/rand"
	"slices"
	"testing"

	"strata/api"
	"strata/squash"
	"strata/tree"
)

// 12.7: picks is neither changed nor kept, nor its spare room.
func TestPicksAreNotKept(t *testing.T) {
	_, x := three(t, 0)
	picks := []int{2, 1, 77}[:2]
	j, err := squash.Start(x, picks, false)
	mustErr(t, "Start", err, api.OK)
	if !slices.Equal(picks[:3], []int{2, 1, 77}) {
		t.Errorf("Start changed %v", picks[:3])
	}
	picks[0], picks[1], picks[:3][2] = 3, 3, 3
	mustErr(t, "Finish", finish(j), api.OK)
	if n := numsOf(x.Runs()); !slices.Equal(n, []int{3, 4}) {
		t.Errorf("%v", n)
	}
	if !slices.Equal(picks[:3], []int{3, 3, 3}) {
		t.Errorf("the job changed %v", picks[:3])
	}
}

// 12.1: the runs that Pick is handed are not changed, and what it answers is new memory.
func TestPickKeepsNothing(t *testing.T) {
	p := api.Policy{Width: 2, Ratio: 2, Most: 3}
	for _, l := range [][]api.RunMeta{runs(5, 9, 4, 1, 3, 8), runs(5, 9, 4, 1, 3, 8, 2, 2), runs(5, 9, 4, 1)} {
		was := slices.Clone(l)
		in := append(l, api.RunMeta{Num: 99})[:len(l)]
		first, _, err := squash.Pick(p, in...)
		mustErr(t, "Pick", err, api.OK)
		want := slices.Clone(first)
		clear(first[:cap(first)])
		again, _, _ := squash.Pick(p, in...)
		if !slices.Equal(again, want) {
			t.Errorf("%v, at first %v", again, want)
		}
		for i, r := range append(was, api.RunMeta{Num: 99}) {
			if in[:len(was)+1][i].Num != r.Num || in[:len(was)+1][i].Bytes != r.Bytes {
				t.Fatalf("Pick changed %v", in)
			}
		}
	}
}

// 12.7: two jobs have nothing in common, though they take the same runs.
func TestTwoJobsOfTheSameRuns(t *testing.T) {
	_, x := three(t, 0)
	j, k := start(t, x, true, 1, 2, 3), start(t, x, true, 3, 2, 1)
	for i := range 8 {
		for _, job := range []*squash.Job{j, k} {
			if all, err := job.Step(1); all != (i == 7) || err != api.OK {
				t.Fatalf("step %d: %v, %d", i, all, err)
			}
		}
	}
	mustErr(t, "Finish", finish(j), api.OK)
	mustErr(t, "Finish", finish(k), api.ErrMoved)
	if x.Pins() != 0 {
		t.Errorf("%d views are held", x.Pins())
	}
}

// 12.7: whatever values come, every call ends, and none panics.
func TestWhateverValuesCome(t *testing.T) {
	r := rand.New(rand.NewSource(127))
	wild := []int{math.MinInt, -1, 0, 1, 2, 3, 4, 5, 16, 17, 64, 65, 1 << 24, 1<<24 + 1, 1 << 40, 1 << 62, math.MaxInt}
	draw := func() int { return wild[r.Intn(len(wild))] }
	for range 5000 {
		l := make([]api.RunMeta, r.Intn(6))
		for i := range l {
			l[i] = api.RunMeta{Num: draw(), Count: draw(), Bytes: draw()}
		}
		squash.Pick(api.Policy{Width: draw(), Ratio: draw(), Most: draw()}, l...)
		squash.Pick(api.Policy{Width: 2, Ratio: 2 + r.Intn(63), Most: 2 + r.Intn(3)}, l...)
	}
	closed := make(chan struct{})
	close(closed)
	for range 200 {
		_, x := three(t, r.Intn(9))
		var jobs []*squash.Job
		for range 40 {
			picks := make([]int, r.Intn(4))
			for i := range picks {
				picks[i] = draw()
			}
			if r.Intn(2) == 0 {
				picks = numsOf(x.Runs())
			}
			if j, err := squash.Start(x, picks, r.Intn(2) == 0); err == api.OK {
				jobs = append(jobs, j)
			}
			if len(jobs) > 0 {
				doWildly(r, x, jobs[r.Intn(len(jobs))], draw, closed)
			}
		}
		for _, j := range jobs {
			j.Abort()
		}
		if x.Pins() != 0 {
			t.Fatalf("%d views are held", x.Pins())
		}
	}
}

func doWildly(r *rand.Rand, x *tree.Tree, j *squash.Job, draw func() int, closed chan struct{}) {
	switch r.Intn(6) {
	case 0, 1:
		j.Step(draw())
	case 2:
		j.Run([]chan struct{}{nil, closed}[r.Intn(2)], draw())
	case 3:
		j.Finish()
	case 4:
		j.Abort()
	case 5:
		index := x.Applied() + 1
		x.Apply(index, x.Clock()+r.Intn(3), x.Low(), api.Entry{Row: []byte("r"), Kind: api.KCol, Ts: x.Low() + 1 + r.Intn(5), Seq: 16 * index})
		x.Flush(nil)
	}
}
