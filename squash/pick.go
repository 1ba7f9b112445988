package squash

import (
	"cmp"
	"slices"

	"strata/api"
)

// Pick tells which runs to squash (none: none need be), and whether as a major job.
func Pick(p api.Policy, runs ...api.RunMeta) ([]int, bool, api.Errno) {
	if !isPolicy(p) {
		return nil, false, api.ErrTiers
	}
	if !areRuns(runs) {
		return nil, false, api.ErrPicks
	}
	if len(runs) > p.Most && fit(runs) {
		return numsOf(runs), true, api.OK
	}
	tier := firstTier(p, rising(runs))
	chosen := make(map[int]int, len(tier))
	for i, r := range tier {
		chosen[r.Num] = i
	}
	var picks []int
	for _, r := range runs {
		if _, is := chosen[r.Num]; is {
			picks = append(picks, r.Num)
		}
	}
	return picks, len(picks) > 0 && len(picks) == len(runs), api.OK
}

func isPolicy(p api.Policy) bool {
	return within(p.Width, 2, api.MaxTier) && within(p.Ratio, 2, 64) && within(p.Most, p.Width, api.MaxRuns)
}

func within(n, least, most int) bool { return least <= n && n <= most }

// areRuns tells whether these may be the runs of a tree.
func areRuns(runs []api.RunMeta) bool {
	if len(runs) > api.MaxRuns {
		return false
	}
	at := make(map[int]int, len(runs))
	for i, r := range runs {
		if _, twice := at[r.Num]; twice || r.Num < 1 || r.Bytes < 0 {
			return false
		}
		at[r.Num] = i
	}
	return true
}

func numsOf(runs []api.RunMeta) []int {
	var nums []int
	for _, r := range runs {
		nums = append(nums, r.Num)
	}
	return nums
}

// fit tells whether runs together are small enough for one. It counts down, since the sum of any numbers could wrap.
func fit(runs []api.RunMeta) bool {
	room := api.MaxRunBytes
	for _, r := range runs {
		if r.Bytes > room {
			return false
		}
		room -= r.Bytes
	}
	return true
}

func rising(runs []api.RunMeta) []api.RunMeta {
	runs = slices.Clone(runs)
	slices.SortFunc(runs, func(a, b api.RunMeta) int {
		return cmp.Or(cmp.Compare(a.Bytes, b.Bytes), cmp.Compare(a.Num, b.Num))
	})
	return runs
}

// firstTier is the first Width runs of the first tier that has so many, and of which these fit in one run.
func firstTier(p api.Policy, runs []api.RunMeta) []api.RunMeta {
	for ; len(runs) >= p.Width; runs = runs[1:] {
		tier := runs[:p.Width]
		// Where they fit, the product can't wrap.
		if fit(tier) && tier[p.Width-1].Bytes <= p.Ratio*tier[0].Bytes {
			return tier
		}
	}
	return nil
}
