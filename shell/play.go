package shell

import "strata/api"

// How far a shell is; a line may ask for it.
const (
	anyStage = iota
	noTable
	notOpen
	isOpen
)

func (x *Shell) stage() int {
	switch {
	case len(x.schema.Fams) == 0:
		return noTable
	case x.tree == nil:
		return notOpen
	}
	return isOpen
}

// deed does what a line asks for: what is told behind ok, each with a blank ahead.
type deed func(*Shell) ([]string, api.Errno)

// form is how far the shell must be for a line, and what makes a deed of the words behind its first one.
type form struct {
	stage int
	read  func(*words) deed
}

// forms are found by a line's first word.
func forms() map[string]form {
	return map[string]form{
		"table":   {noTable, readTable},
		"open":    {notOpen, readOpen},
		"close":   {isOpen, alone((*Shell).close)},
		"session": {isOpen, readSession},
		"end":     {isOpen, readEnd},
		"tick":    {isOpen, readTick},
		"advance": {isOpen, readAdvance},
		"mutate":  {isOpen, readMutate},
		"ask":     {isOpen, readAsk},
		"get":     {isOpen, readGet},
		"flush":   {isOpen, alone((*Shell).flush)},
		"compact": {isOpen, readCompact},
		"step":    {isOpen, withNumber((*Shell).step)},
		"finish":  {isOpen, alone((*Shell).finish)},
		"abort":   {isOpen, alone((*Shell).abort)},
		"runs":    {isOpen, alone((*Shell).runs)},
		"dump":    {isOpen, withNumber((*Shell).dump)},
		"stat":    {isOpen, alone((*Shell).stat)},
		"digest":  {isOpen, alone((*Shell).digest)},
		"verify":  {isOpen, withNumber((*Shell).verify)},
		"backup":  {isOpen, alone((*Shell).keepBackup)},
		"arm":     {anyStage, withNumber((*Shell).arm)},
		"crash":   {anyStage, readCrash},
		"files":   {anyStage, alone((*Shell).files)},
		"flip":    {anyStage, readFlip},
		"restore": {notOpen, alone((*Shell).restore)},
	}
}

// play does what a line's words ask for.
func (x *Shell) play(l []word) ([]string, api.Errno) {
	w := &words{left: l, schema: x.schema}
	f, is := forms()[w.name()]
	if !is {
		return nil, api.ErrLine
	}
	do := f.read(w)
	switch {
	case !w.areRead():
		return nil, api.ErrLine
	case f.stage != anyStage && f.stage != x.stage():
		return nil, api.ErrStarted
	case w.strange:
		return nil, api.ErrFam
	}
	return do(x)
}

// alone reads no word.
func alone(do deed) func(*words) deed {
	return func(*words) deed { return do }
}

// withNumber reads one number.
func withNumber(do func(*Shell, int) ([]string, api.Errno)) func(*words) deed {
	return func(w *words) deed {
		n := w.number()
		return func(x *Shell) ([]string, api.Errno) { return do(x, n) }
	}
}
