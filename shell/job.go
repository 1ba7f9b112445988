package shell

import (
	"strata/api"
	"strata/squash"
)

func readCompact(w *words) deed {
	major := w.skip("major")
	if !major && !w.skip("minor") {
		w.giveUp()
	}
	return func(x *Shell) ([]string, api.Errno) { return x.compact(major) }
}

func (x *Shell) compact(major bool) ([]string, api.Errno) {
	if x.job != nil {
		return nil, api.ErrBusy
	}
	picks, major, err := x.pick(major)
	if err != api.OK {
		return nil, err
	}
	if len(picks) == 0 {
		return []string{"none"}, api.OK
	}
	if x.job, err = squash.Start(x.tree, picks, major); err != api.OK {
		return nil, err
	}
	return numbers(picks...), api.OK
}

// pick tells which runs a job takes, and whether it is a major one: what the policy wants may come to one, too.
func (x *Shell) pick(major bool) ([]int, bool, api.Errno) {
	runs := x.tree.Runs()
	if !major {
		return squash.Pick(api.Policy{Width: 2, Ratio: 4, Most: 8}, runs...)
	}
	var picks []int
	for _, r := range runs {
		picks = append(picks, r.Num)
	}
	return picks, true, api.OK
}

func (x *Shell) step(n int) (told []string, err api.Errno) {
	if x.job == nil {
		return nil, api.ErrJob
	}
	defer func() {
		if err != api.OK {
			x.endJob()
		}
	}()
	all, err := x.job.Step(n)
	switch {
	case err != api.OK:
		return nil, err
	case all:
		return []string{"all"}, api.OK
	}
	return []string{"more"}, api.OK
}

func (x *Shell) finish() ([]string, api.Errno) {
	if x.job == nil {
		return nil, api.ErrJob
	}
	defer x.endJob()
	s, err := x.job.Finish()
	if err != api.OK {
		return nil, err
	}
	d := s.Dropped
	return numbers(s.In, s.Out, d.Older, d.Masked, d.Expired, d.Above, d.Marks), api.OK
}

func (x *Shell) abort() ([]string, api.Errno) {
	if x.job == nil {
		return nil, api.ErrJob
	}
	defer x.endJob()
	return nil, api.OK
}

// endJob leaves no job open; one that has ended by itself it lets go of alone.
func (x *Shell) endJob() {
	if x.job != nil {
		x.job.Abort()
		x.job = nil
	}
}
