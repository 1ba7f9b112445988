package disk

import (
	"bytes"

	"strata/api"
)

// Arm lets the disk go down at its n-th act from here on (an Append's bytes have joined); 0 or below: not.
func (d *Disk) Arm(n int) {
	if !d.down {
		d.armed = max(n, 0)
	}
}

// Down tells whether the disk is down.
func (d *Disk) Down() bool { return d.down }

// Crash lets the power fail: of each unsynced tail, by the names, so many bytes stay; how many tails there were. The disk is up again.
func (d *Disk) Crash(cuts ...int) int {
	tails := 0
	for _, name := range d.List("") {
		f := d.files[name]
		if f.synced == len(f.data) {
			continue
		}
		stays := 0
		if tails < len(cuts) {
			stays = cuts[tails]
		}
		f.cut(stays)
		tails++
	}
	d.down, d.armed = false, 0
	return tails
}

// cut leaves so many bytes of the tail, and syncs them.
func (f *file) cut(stays int) {
	tail := len(f.data) - f.synced
	f.synced += min(max(stays, 0), tail)
	if f.synced < len(f.data) {
		// A copy, lest the lost bytes' memory stay held: the files' memory would pass all bounds of capacity.
		f.data = bytes.Clone(f.data[:f.synced])
	}
}

// Flip turns a bit of a file over.
func (d *Disk) Flip(name string, bit int) api.Errno {
	if err := checkNames(name); err != api.OK {
		return err
	}
	f, err := d.find(name)
	if err != api.OK {
		return err
	}
	if bit < 0 || bit/8 >= len(f.data) {
		return api.ErrRange
	}
	f.data[bit/8] ^= 1 << (bit % 8)
	return api.OK
}
