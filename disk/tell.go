package disk

import (
	"bytes"
	"slices"
	"strings"

	"strata/api"
)

// Read reads n bytes of a file.
func (d *Disk) Read(name string, at, n int) ([]byte, api.Errno) {
	f, err := d.reach(name)
	if err != api.OK {
		return nil, err
	}
	// at + n may be more than an int holds.
	if at < 0 || n < 0 || at > len(f.data) || n > len(f.data)-at {
		return nil, api.ErrRange
	}
	d.counts.Reads++
	return bytes.Clone(f.data[at : at+n]), api.OK
}

// Size is a file's length.
func (d *Disk) Size(name string) (int, api.Errno) {
	f, err := d.reach(name)
	if err != api.OK {
		return 0, err
	}
	return len(f.data), api.OK
}

// List tells the names with a prefix, rising.
func (d *Disk) List(prefix string) []string {
	var out []string
	for name := range d.files {
		if strings.HasPrefix(name, prefix) {
			out = append(out, name)
		}
	}
	slices.Sort(out)
	return out
}

// Free tells how many bytes have room.
func (d *Disk) Free() int {
	free := d.capacity
	for _, f := range d.files {
		free -= len(f.data)
	}
	return free
}

// Capacity tells how many bytes have room altogether.
func (d *Disk) Capacity() int { return d.capacity }

// Files tells all files.
func (d *Disk) Files() []api.File {
	var out []api.File
	for _, name := range d.List("") {
		f := d.files[name]
		out = append(out, api.File{Name: name, Data: bytes.Clone(f.data), Synced: f.synced})
	}
	return out
}

// Counts tells which acts took place, and how many Reads were answered.
func (d *Disk) Counts() api.DiskCounts { return d.counts }
