package squash_test

import (
	"math"
	"math/big"
	"math/rand"
	"slices"
	"testing"

	"strata/api"
	"strata/squash"
)

// runs: number, bytes, number, bytes ..
func runs(l ...int) []api.RunMeta {
	var out []api.RunMeta
	for i := 0; i+1 < len(l); i += 2 {
		out = append(out, api.RunMeta{Num: l[i], Bytes: l[i+1]})
	}
	return out
}

// alike is so many runs of the same bytes, numbered from 1 on.
func alike(n, size int) []api.RunMeta {
	var out []api.RunMeta
	for i := range n {
		out = append(out, api.RunMeta{Num: i + 1, Bytes: size})
	}
	return out
}

// upTo is 1, 2 .. n.
func upTo(n int) []int {
	var out []int
	for i := range n {
		out = append(out, i+1)
	}
	return out
}

func mustPick(t *testing.T, p api.Policy, l []api.RunMeta, want []int, major bool) {
	t.Helper()
	got, is, err := squash.Pick(p, l...)
	if !slices.Equal(got, want) || is != major || err != api.OK {
		t.Errorf("Pick(%+v, %v): %v, %v, %d, want %v, %v", p, l, got, is, err, want, major)
	}
}

// 12.1
func TestPick(t *testing.T) {
	p := api.Policy{Width: 2, Ratio: 2, Most: 4}
	three := api.Policy{Width: 3, Ratio: 2, Most: 9}
	mib := 1 << 20
	for _, c := range []struct {
		p     api.Policy
		l     []api.RunMeta
		want  []int
		major bool
	}{
		// the chapter's examples
		{p, runs(1, 100, 2, 150, 3, 900), []int{1, 2}, false},
		{p, runs(3, 900, 2, 150, 1, 100), []int{2, 1}, false},
		{p, runs(1, 100, 2, 201), nil, false},
		{p, runs(1, 100, 2, 200), []int{1, 2}, true},
		{p, runs(1, 1, 2, 10, 3, 100, 4, 1000, 5, 10000), []int{1, 2, 3, 4, 5}, true},
		{three, runs(1, 10, 2, 30, 3, 40, 4, 50), []int{2, 3, 4}, false},
		// no run, one run
		{p, nil, nil, false},
		{p, runs(7, 10), nil, false},
		// Most itself is not too many; above it all go, in the order of the list
		{p, runs(4, 1, 3, 10, 2, 100, 1, 1000), nil, false},
		{p, runs(9, 1, 3, 10, 4, 100, 1, 1000, 7, 0), []int{9, 3, 4, 1, 7}, true},
		{api.Policy{Width: 2, Ratio: 2, Most: 64}, alike(64, 1), []int{1, 2}, false},
		{api.Policy{Width: 16, Ratio: 64, Most: 63}, alike(64, 1<<18), upTo(64), true},
		// all that fits in one run, and one byte more
		{p, runs(1, 1, 2, 10, 3, 100, 4, 1000, 5, 1<<24-1111), []int{1, 2, 3, 4, 5}, true},
		{p, runs(1, 1, 2, 10, 3, 100, 4, 1000, 5, 1<<24-1110), nil, false},
		{p, runs(1, 1, 2, 2, 3, 100, 4, 1000, 5, 1<<24), []int{1, 2}, false},
		// sums and products that would wrap
		{p, runs(1, math.MaxInt, 2, math.MaxInt, 3, 1, 4, 4, 5, 16), nil, false},
		{p, alike(64, math.MaxInt), nil, false},
		{p, alike(2, 1<<62), nil, false},
		{api.Policy{Width: 2, Ratio: 64, Most: 4}, runs(1, 1<<58, 2, 1<<58), nil, false},
		{api.Policy{Width: 16, Ratio: 64, Most: 64}, alike(16, 1<<60), nil, false},
		// a tier's bound, and that it is the first run's
		{p, runs(1, 100, 2, 200, 3, 400), []int{1, 2}, false},
		{three, runs(1, 100, 2, 200, 3, 201), nil, false},
		{three, runs(1, 101, 2, 200, 3, 202), []int{1, 2, 3}, true},
		{api.Policy{Width: 2, Ratio: 64, Most: 9}, runs(1, 1, 2, 64), []int{1, 2}, true},
		{api.Policy{Width: 2, Ratio: 64, Most: 9}, runs(1, 1, 2, 65), nil, false},
		// no bytes: twice of them are none
		{p, runs(1, 0, 2, 1), nil, false},
		{p, runs(1, 0, 2, 0), []int{1, 2}, true},
		{p, runs(1, 0, 2, 1, 3, 2), []int{2, 3}, false},
		// of one tier the first Width; of the same bytes those of the lowest numbers
		{p, runs(4, 9, 2, 9, 3, 9), []int{2, 3}, false},
		{p, runs(4, 10, 3, 9, 2, 9, 1, 10), []int{3, 2}, false},
		{three, runs(6, 5, 5, 4, 4, 5, 3, 4, 2, 5, 1, 4), []int{5, 3, 1}, false},
		// the first Width must fit in one run
		{p, runs(1, 1<<23, 2, 1<<23), []int{1, 2}, true},
		{p, runs(1, 1<<23, 2, 1<<23+1), nil, false},
		{p, runs(1, 1<<24, 2, 1<<24), nil, false},
		{p, runs(1, 0, 2, 1<<24), nil, false},
		{three, runs(1, 5*mib, 2, 5*mib, 3, 6*mib, 4, 6*mib), []int{1, 2, 3}, false},
		{three, runs(1, 5*mib, 2, 6*mib, 3, 6*mib, 4, 6*mib), nil, false},
		// the widest
		{api.Policy{Width: 16, Ratio: 2, Most: 16}, alike(16, 1<<20), upTo(16), true},
		{api.Policy{Width: 16, Ratio: 2, Most: 64}, alike(15, 1), nil, false},
		{api.Policy{Width: 16, Ratio: 2, Most: 64}, alike(17, 1), upTo(16), false},
		{p, runs(math.MaxInt, 3, 1, 2), []int{math.MaxInt, 1}, true},
	} {
		mustPick(t, c.p, c.l, c.want, c.major)
	}
}

// 12.1: what it refuses: the policy ahead of the runs.
func TestPickRefuses(t *testing.T) {
	good := api.Policy{Width: 2, Ratio: 2, Most: 4}
	twice := alike(64, 1)
	twice[63].Num = 1
	for _, c := range []struct {
		p    api.Policy
		l    []api.RunMeta
		want api.Errno
	}{
		{api.Policy{Width: 1, Ratio: 2, Most: 4}, runs(1, 5, 1, 6), api.ErrTiers},
		{api.Policy{Width: 17, Ratio: 2, Most: 64}, nil, api.ErrTiers},
		{api.Policy{Width: math.MinInt, Ratio: 2, Most: 4}, nil, api.ErrTiers},
		{api.Policy{Width: 2, Ratio: 1, Most: 4}, nil, api.ErrTiers},
		{api.Policy{Width: 2, Ratio: 65, Most: 4}, nil, api.ErrTiers},
		{api.Policy{Width: 2, Ratio: math.MaxInt, Most: 4}, nil, api.ErrTiers},
		{api.Policy{Width: 2, Ratio: 2, Most: 1}, nil, api.ErrTiers},
		{api.Policy{Width: 4, Ratio: 2, Most: 3}, alike(65, 1), api.ErrTiers},
		{api.Policy{Width: 2, Ratio: 2, Most: 65}, nil, api.ErrTiers},
		{api.Policy{}, nil, api.ErrTiers},
		{api.Policy{Width: 2, Ratio: 2, Most: 2}, nil, api.OK},
		{api.Policy{Width: 2, Ratio: 64, Most: 64}, nil, api.OK},
		{api.Policy{Width: 16, Ratio: 2, Most: 16}, nil, api.OK},
		{good, alike(65, 0), api.ErrPicks},
		{good, alike(64, 0), api.OK},
		{good, runs(0, 5), api.ErrPicks},
		{good, runs(2, 5, -1, 5), api.ErrPicks},
		{good, runs(math.MinInt, 5), api.ErrPicks},
		{good, runs(1, -1), api.ErrPicks},
		{good, runs(1, 5, 2, math.MinInt), api.ErrPicks},
		{good, runs(1, 5, 1, 6), api.ErrPicks},
		{good, runs(1, 5, 1, 5), api.ErrPicks},
		{good, runs(1, 5, 2, 5, 1, 7), api.ErrPicks},
		{good, twice, api.ErrPicks},
	} {
		l, major, err := squash.Pick(c.p, c.l...)
		if err != c.want || err != api.OK && (len(l) > 0 || major) {
			t.Errorf("Pick(%+v, %v): %v, %v, %d, want %d", c.p, c.l, l, major, err, c.want)
		}
	}
}

// together is a sum that can't wrap.
func together(l []api.RunMeta) *big.Int {
	sum := new(big.Int)
	for _, r := range l {
		sum.Add(sum, big.NewInt(int64(r.Bytes)))
	}
	return sum
}

// isBehind: in order by Bytes, then by Num.
func isBehind(a, b api.RunMeta) bool {
	return a.Bytes > b.Bytes || a.Bytes == b.Bytes && a.Num > b.Num
}

// next is the run of the list that comes first behind one (nil: of all).
func next(l []api.RunMeta, behind *api.RunMeta) *api.RunMeta {
	var first *api.RunMeta
	for i := range l {
		if (behind == nil || isBehind(l[i], *behind)) && (first == nil || isBehind(*first, l[i])) {
			first = &l[i]
		}
	}
	return first
}

// picked is the chapter's three rules, word by word, without a sorted list.
func picked(p api.Policy, l []api.RunMeta) ([]int, bool) {
	most := big.NewInt(1 << 24)
	if len(l) > p.Most && together(l).Cmp(most) <= 0 {
		return numsOf(l), true
	}
	for first := next(l, nil); first != nil; first = next(l, first) {
		bound := new(big.Int).Mul(big.NewInt(int64(p.Ratio)), big.NewInt(int64(first.Bytes)))
		var tier []api.RunMeta
		for r := first; r != nil; r = next(l, r) {
			if big.NewInt(int64(r.Bytes)).Cmp(bound) <= 0 || r == first {
				tier = append(tier, *r)
			}
		}
		if len(tier) < p.Width || together(tier[:p.Width]).Cmp(most) > 0 {
			continue
		}
		chosen := numsOf(tier[:p.Width])
		var out []int
		for _, num := range numsOf(l) {
			if slices.Contains(chosen, num) {
				out = append(out, num)
			}
		}
		return out, len(out) == len(l)
	}
	return nil, false
}

func drawPolicy(r *rand.Rand) api.Policy {
	p := api.Policy{Width: 2 + r.Intn(4), Ratio: 2 + r.Intn(4)}
	if r.Intn(5) == 0 {
		p = api.Policy{Width: 2 + r.Intn(15), Ratio: 2 + r.Intn(63)}
	}
	p.Most = p.Width + r.Intn(8)
	return p
}

// drawRuns draws numbers in any order, and bytes of one of some orders of size.
func drawRuns(r *rand.Rand) []api.RunMeta {
	scale := []int{3, 20, 1000, 1 << 22, 1 << 24, 1 << 50, math.MaxInt}[r.Intn(7)]
	var l []api.RunMeta
	for _, num := range r.Perm(64)[:r.Intn(1+r.Intn(24))] {
		size := r.Intn(scale)
		if r.Intn(3) == 0 {
			size >>= r.Intn(12)
		}
		l = append(l, api.RunMeta{Num: num + 1, Bytes: size})
	}
	return l
}

// 12.1
func TestPickByTheWords(t *testing.T) {
	r := rand.New(rand.NewSource(121))
	counts := map[string]int{}
	for range 30000 {
		p, l := drawPolicy(r), drawRuns(r)
		want, major := picked(p, l)
		mustPick(t, p, l, want, major)
		switch {
		case len(want) == 0:
			counts["none"]++
		case len(want) > p.Width:
			counts["more than Most"]++
		case major:
			counts["all of a tier"]++
		default:
			counts["some"]++
		}
		if t.Failed() {
			return
		}
	}
	for _, what := range []string{"none", "more than Most", "all of a tier", "some"} {
		if counts[what] < 200 {
			t.Errorf("%s was drawn only %d times", what, counts[what])
		}
	}
}

// 12.10, by numbers alone: whatever the runs come to, squashed, it ends.
func TestPickGetsThere(t *testing.T) {
	r := rand.New(rand.NewSource(1210))
	for range 3000 {
		p, l := drawPolicy(r), drawRuns(r)
		most, jobs, num := len(l), 0, 100
		for {
			picks, major, err := squash.Pick(p, l...)
			mustErr(t, "Pick", err, api.OK)
			if len(picks) == 0 {
				break
			}
			if major != (len(picks) == len(l)) {
				t.Fatalf("%v of %d runs: major %v", picks, len(l), major)
			}
			size := 0
			l = slices.DeleteFunc(l, func(m api.RunMeta) bool {
				gone := slices.Contains(picks, m.Num)
				if gone {
					size += m.Bytes
				}
				return gone
			})
			if r.Intn(8) > 0 {
				num++
				l = append(l, api.RunMeta{Num: num, Bytes: r.Intn(size + 1)})
			}
			if jobs++; jobs > most {
				t.Fatalf("%+v: %d jobs for %d runs", p, jobs, most)
			}
		}
	}
}
