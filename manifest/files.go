package manifest

import (
	"strconv"
	"strings"

	"strata/api"
	"strata/disk"
)

// What the names of a tablet's files have behind its prefix.
const (
	standName = "MANIFEST"
	tmpName   = "MANIFEST.TMP"
	runName   = "RUN-"
)

// RunName is the name of a run's file.
func RunName(prefix string, num int) string {
	name := prefix + runName
	if num < 0 {
		return name
	}
	return name + strconv.Itoa(num)
}

// ready: what every call on a disk asks first.
func ready(d *disk.Disk, prefix string) api.Errno {
	switch {
	case d == nil:
		return api.ErrArg
	case d.Down():
		return api.ErrDown
	case len(prefix) > api.MaxPrefix:
		return api.ErrName
	}
	// Whether there is such a file does not matter: Size alone tells, without an act, whether it may be a name.
	if _, err := d.Size(prefix + tmpName); err == api.ErrName {
		return err
	}
	return api.OK
}

// Load reads the version on a disk; false: there is none.
func Load(d *disk.Disk, prefix string) (api.Version, bool, api.Errno) {
	if err := ready(d, prefix); err != api.OK {
		return api.Version{}, false, err
	}
	return standing(d, prefix)
}

func standing(d *disk.Disk, prefix string) (api.Version, bool, api.Errno) {
	size, err := d.Size(prefix + standName)
	if err == api.ErrNoFile {
		return api.Version{}, false, api.OK
	}
	if err != api.OK {
		return api.Version{}, false, err
	}
	b, err := d.Read(prefix+standName, 0, size)
	if err != api.OK {
		return api.Version{}, false, err
	}
	v, err := Decode(b)
	return v, err == api.OK, err
}

// Swap puts a version in the place of the one on a disk, at one stroke.
func Swap(d *disk.Disk, prefix string, v api.Version) api.Errno {
	if err := ready(d, prefix); err != api.OK {
		return err
	}
	b, err := Encode(v)
	if err != api.OK {
		return err
	}
	// Where there is none, its generation is 0, and 1 follows.
	old, _, err := standing(d, prefix)
	if err != api.OK {
		return err
	}
	if v.Gen != old.Gen+1 {
		return api.ErrGen
	}
	return replace(d, prefix, b)
}

// replace does the acts of a Swap, up to the first that is refused. The bytes are synced ahead of their name's being the one that counts.
func replace(d *disk.Disk, prefix string, b []byte) (err api.Errno) {
	tmp := prefix + tmpName
	// Append alone is refused for want of room. If power fails at the Delete, the want of room is still what is told.
	defer func() {
		if err == api.ErrFull {
			d.Delete(tmp)
		}
	}()
	steps := []func() api.Errno{
		func() api.Errno { return deleteIfThere(d, tmp) },
		func() api.Errno { return d.Create(tmp) },
		func() api.Errno { return d.Append(tmp, b) },
		func() api.Errno { return d.Sync(tmp) },
		func() api.Errno { return d.Rename(tmp, prefix+standName) },
	}
	for _, step := range steps {
		if err = step(); err != api.OK {
			return err
		}
	}
	return api.OK
}

func deleteIfThere(d *disk.Disk, name string) api.Errno {
	err := d.Delete(name)
	if err == api.ErrNoFile {
		return api.OK
	}
	return err
}

// Sweep deletes the files of runs that a version does not name, and the TMP file: their names.
func Sweep(d *disk.Disk, prefix string, v api.Version) ([]string, api.Errno) {
	if err := ready(d, prefix); err != api.OK {
		return nil, err
	}
	if err := Check(v); err != api.OK && !isZero(v) {
		return nil, err
	}
	var gone []string
	for _, name := range d.List(prefix) {
		if !isLeftOver(prefix, name, v.Runs) {
			continue
		}
		if err := d.Delete(name); err != api.OK {
			return gone, err
		}
		gone = append(gone, name)
	}
	return gone, api.OK
}

// isZero: of a disk that has no version; empty lists are none.
func isZero(v api.Version) bool {
	return v.Gen == 0 && v.Flushed == 0 && v.Next == 0 && v.Low == 0 && v.Clock == 0 && len(v.State) == 0 && len(v.Runs) == 0
}

// isLeftOver tells whether a file that begins with the prefix is one that no version with these runs needs.
func isLeftOver(prefix, name string, runs []api.RunMeta) bool {
	if name == prefix+tmpName {
		return true
	}
	num, is := runNum(prefix, name)
	return is && !hasNum(runs, num)
}

// runNum is the number of the run whose file has this name; false: it is no run's.
func runNum(prefix, name string) (int, bool) {
	digits, is := strings.CutPrefix(name, prefix+runName)
	num, err := strconv.Atoi(digits)
	// A number has one name: with a sign or a zero ahead of it, it is another file's.
	if !is || err != nil || num < 1 || RunName(prefix, num) != name {
		return 0, false
	}
	return num, true
}
