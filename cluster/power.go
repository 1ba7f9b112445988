package cluster

import (
	"strata/api"
	"strata/disk"
)

// Arm lets a node's disk go down at its n-th act from here on.
func (x *Cluster) Arm(node, n int) api.Errno {
	if _, err := x.replicas(node); err != api.OK {
		return err
	}
	x.disks[node].Arm(n)
	return api.OK
}

// Crash lets a node's power fail; it is off then.
func (x *Cluster) Crash(node int, cuts ...int) api.Errno {
	if _, err := x.replicas(node); err != api.OK {
		return err
	}
	x.disks[node].Crash(cuts...)
	delete(x.on, node)
	return api.OK
}

// Start turns a node on again, over a copy of its disk.
func (x *Cluster) Start(node, draw int) api.Errno {
	if _, on := x.on[node]; on || !x.isNode(node) {
		return api.ErrNode
	}
	d, err := synced(x.disks[node])
	if err != api.OK {
		return err
	}
	// Also where a replica does not open: what opening did to the files stays.
	x.disks[node] = d
	return x.turnOn(node, draw)
}

// synced is a new disk with the same files, all of them synced.
func synced(d *disk.Disk) (*disk.Disk, api.Errno) {
	files := d.Files()
	for i, f := range files {
		files[i].Synced = len(f.Data)
	}
	return disk.Load(d.Capacity(), files...)
}

// Files tells the files of a node's disk.
func (x *Cluster) Files(node int) ([]api.File, api.Errno) {
	if !x.isNode(node) {
		return nil, api.ErrNode
	}
	return x.disks[node].Files(), api.OK
}
