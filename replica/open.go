package replica

import (
	"slices"
	"strings"

	"strata/api"
	"strata/disk"
	"strata/journal"
	"strata/machine"
	"strata/raft"
	"strata/squash"
	"strata/tree"
)

// Open opens the replica on a disk, or begins one; draw: of its first timeout.
func Open(d *disk.Disk, prefix string, s api.Schema, c api.ReplicaConfig, draw int) (*Replica, api.Errno) {
	if err := check(d, c); err != api.OK {
		return nil, err
	}
	r := &Replica{
		disk:      d,
		prefix:    strings.Clone(prefix),
		id:        c.Raft.ID,
		peers:     slices.Clone(c.Raft.Peers),
		policy:    c.Policy,
		proposals: map[int]int{},
		sending:   map[int]*parcel{},
	}
	if err := r.openParts(s, c); err != api.OK {
		return nil, err
	}
	if err := r.openSnap(); err != api.OK {
		return nil, err
	}
	if err := r.openNode(c.Raft, draw); err != api.OK {
		return nil, err
	}
	return r, api.OK
}

// check is what is asked ahead of all that lies on the disk.
func check(d *disk.Disk, c api.ReplicaConfig) api.Errno {
	switch {
	case d == nil:
		return api.ErrArg
	case d.Down():
		return api.ErrDown
	}
	if _, _, err := squash.Pick(c.Policy); err != api.OK {
		return err
	}
	_, err := raft.New(c.Raft, api.RaftState{}, 0)
	return err
}

func (r *Replica) openParts(s api.Schema, c api.ReplicaConfig) (err api.Errno) {
	if r.tree, err = tree.Open(r.disk, r.prefix, s, c.Tree); err != api.OK {
		return err
	}
	if r.machine, err = machine.Open(r.tree); err != api.OK {
		return err
	}
	r.journal, err = journal.Open(r.disk, r.prefix, c.Segment)
	return err
}

// openSnap ends an installing that the power cut off behind the manifest's swap: then the journal alone is not behind the snapshot yet.
func (r *Replica) openSnap() api.Errno {
	b, err := r.readSnap()
	switch err {
	case api.OK:
	case api.ErrNoFile:
		return api.OK
	default:
		return err
	}
	base, _ := r.journal.Base()
	x, is := readSnapshot(b)
	if is && x.image.Index == r.tree.Flushed() && x.image.Index > base {
		if err := r.passOver(x); err != api.OK {
			return err
		}
	}
	return r.deleteSnap()
}

// passOver brings the journal behind a snapshot that is above its base.
func (r *Replica) passOver(x snapshot) api.Errno {
	term, err := r.journal.Term(x.image.Index)
	if err == api.OK && term == x.term {
		return r.journal.Trim(x.image.Index)
	}
	return r.journal.Reset(r.journal.Hard(), x.image.Index, x.term)
}

func (r *Replica) openNode(c api.RaftConfig, draw int) (err api.Errno) {
	base, term := r.journal.Base()
	last, _ := r.journal.Last()
	flushed := r.tree.Flushed()
	if flushed < base || flushed > last {
		return api.ErrMix
	}
	s := api.RaftState{Hard: r.journal.Hard(), SnapIndex: base, SnapTerm: term, Commit: flushed}
	if s.Log, err = r.journal.Entries(base+1, last); err != api.OK {
		return err
	}
	if r.node, err = raft.New(c, s, draw); err != api.OK {
		return err
	}
	r.stand = stand{term: s.Hard.Term, role: api.RFollower, commit: flushed}
	return api.OK
}
