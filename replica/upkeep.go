package replica

import (
	"strata/api"
	"strata/squash"
)

// Flush writes what was applied, and trims the log.
func (r *Replica) Flush() api.Errno {
	if err := r.refusal(); err != api.OK {
		return err
	}
	defer r.look()
	return r.flush()
}

func (r *Replica) flush() api.Errno {
	if err := r.machine.Flush(); err != api.OK {
		return err
	}
	flushed := r.tree.Flushed()
	if base, _ := r.journal.Base(); flushed <= base {
		return api.OK
	}
	switch err := r.journal.Trim(flushed); err {
	case api.OK:
		_, err := r.step(api.Event{Kind: api.ECompact, Index: flushed})
		return err
	case api.ErrFull, api.ErrFiles:
		// The log stays longer, till the next Flush.
		return api.OK
	default:
		return err
	}
}

// Compact begins a compaction, if none is under way, and steps it by n entries; true: it was finished.
func (r *Replica) Compact(major bool, n int) (bool, api.Errno) {
	if err := r.refusal(); err != api.OK {
		return false, err
	}
	defer r.look()
	if r.job == nil {
		if err := r.beginJob(major); r.job == nil {
			return false, err
		}
	}
	all, err := r.job.Step(n)
	if all {
		_, err = r.job.Finish()
	}
	if all || err != api.OK {
		r.job = nil
	}
	return all && err == api.OK, err
}

// beginJob leaves no job, if there is nothing to squash. What the policy wants may come to a major one, too.
func (r *Replica) beginJob(major bool) (err api.Errno) {
	runs := r.tree.Runs()
	picks := numsOf(runs)
	if !major {
		if picks, major, err = squash.Pick(r.policy, runs...); err != api.OK {
			return err
		}
	}
	if len(picks) == 0 {
		return api.OK
	}
	r.job, err = squash.Start(r.tree, picks, major)
	return err
}

func numsOf(runs []api.RunMeta) []int {
	var nums []int
	for _, run := range runs {
		nums = append(nums, run.Num)
	}
	return nums
}

func (r *Replica) abortJob() {
	if r.job != nil {
		r.job.Abort()
		r.job = nil
	}
}
