package disk

import "strata/api"

// act is what a call does, if nothing refuses it.
type act struct {
	do   func()
	torn bool // it is done even if power fails at it: how much of it stays, the crash says
}

// settle ends every act, deferred, since what is refused is none: here alone it is asked whether it is the armed one.
func (d *Disk) settle(err *api.Errno, a act) {
	if *err != api.OK {
		return
	}
	last := d.armed == 1
	if d.armed > 0 {
		d.armed--
	}
	if last {
		d.down = true
		*err = api.ErrDown
	}
	if !last || a.torn {
		a.do()
		d.counts.Acts++
	}
}

// Create makes an empty file.
func (d *Disk) Create(name string) (err api.Errno) {
	defer d.settle(&err, act{do: func() { d.hold(name, &file{}) }})
	if err = d.ready(name); err != api.OK {
		return err
	}
	if d.files[name] != nil {
		return api.ErrExists
	}
	if len(d.files) >= api.MaxFiles {
		return api.ErrFiles
	}
	return api.OK
}

// Append puts bytes behind a file's end.
func (d *Disk) Append(name string, b []byte) (err api.Errno) {
	var f *file
	defer d.settle(&err, act{torn: true, do: func() {
		f.data = append(f.data, b...)
		d.counts.Appends++
	}})
	if err = d.ready(name); err != api.OK {
		return err
	}
	if len(b) > api.MaxDisk {
		return api.ErrLong
	}
	if f, err = d.find(name); err != api.OK {
		return err
	}
	if len(b) > d.Free() {
		return api.ErrFull
	}
	return api.OK
}

// Sync makes a file's bytes safe.
func (d *Disk) Sync(name string) (err api.Errno) {
	var f *file
	defer d.settle(&err, act{do: func() {
		f.synced = len(f.data)
		d.counts.Syncs++
	}})
	f, err = d.reach(name)
	return err
}

// Rename gives a file another name, in the place of whatever has it.
func (d *Disk) Rename(from, to string) (err api.Errno) {
	var f *file
	defer d.settle(&err, act{do: func() {
		delete(d.files, from)
		d.hold(to, f)
		d.counts.Renames++
	}})
	if err = d.ready(from, to); err != api.OK {
		return err
	}
	f, err = d.find(from)
	return err
}

// Delete takes a file away.
func (d *Disk) Delete(name string) (err api.Errno) {
	defer d.settle(&err, act{do: func() {
		delete(d.files, name)
		d.counts.Deletes++
	}})
	_, err = d.reach(name)
	return err
}
