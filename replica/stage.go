package replica

import (
	"strata/api"
	"strata/machine"
)

// What the names of files have behind the prefix: of what is staged, and of the journal's segments.
const (
	snapName    = "SNAP"
	segmentName = "J-"
)

// label says of which snapshot a chunk is.
type label struct {
	from  int
	index int
	term  int
	total int
}

func labelOf(m api.Message) label { return label{m.From, m.Index, m.Term, m.Total} }

// staging is a snapshot that is being staged.
type staging struct {
	label
	count int // bytes that are there
}

func isChunk(m api.Message) bool {
	return isPlace(m) && within(m.Total, 1, api.MaxDisk) && m.At >= 0 &&
		within(len(m.Data), 1, api.MaxChunk) && m.At <= m.Total-len(m.Data)
}

func (r *Replica) takeChunk(m api.Message, _ int) ([]api.Message, api.Errno) {
	if !isChunk(m) {
		return nil, api.ErrSnap
	}
	fresh := r.staged == nil || r.staged.label != labelOf(m)
	switch {
	case r.leads() || m.Term > r.stand.term:
		return nil, api.OK
	case m.Index <= r.stand.commit:
		return r.got(m, m.Total), api.OK
	case r.staged != nil && r.staged.index > m.Index:
		return nil, api.OK
	case fresh && m.At > 0:
		return r.got(m, 0), api.OK
	}
	ready, err := r.stage(m, fresh)
	switch {
	case err != api.OK:
		return nil, err
	case ready != nil:
		return r.goOnInstalled(m, *ready)
	case r.staged == nil:
		return nil, api.OK
	}
	return r.got(m, r.staged.count), api.OK
}

// got tells how far a chunk's snapshot has come here.
func (r *Replica) got(m api.Message, at int) []api.Message {
	return []api.Message{{Kind: api.PGot, From: r.id, To: m.From, Index: m.Index, Term: m.Term, At: at, Total: m.Total}}
}

// stage takes a chunk; fresh: with it a snapshot begins. With its last one the snapshot is installed: what the node then wants done. Whatever is staged and comes to nothing is taken away.
func (r *Replica) stage(m api.Message, fresh bool) (ready *api.Ready, err api.Errno) {
	goesOn := false
	defer func() {
		// Within an installing that was cut off, or that halted it, the file is what the next Open ends it by.
		if goesOn || err == api.ErrDown || r.halted {
			return
		}
		if gone := r.unstage(); gone != api.OK {
			ready, err = nil, gone
		}
	}()
	switch err := r.put(m, fresh); {
	case err == api.ErrDown:
		return nil, err
	case err != api.OK:
		// There is no room: it may come again later.
		return nil, api.OK
	}
	goesOn = r.staged.count < r.staged.total
	if goesOn {
		return nil, api.OK
	}
	return r.install()
}

// put appends a chunk's bytes, if they are the next ones.
func (r *Replica) put(m api.Message, fresh bool) api.Errno {
	name := r.prefix + snapName
	if fresh {
		if err := r.deleteSnap(); err != api.OK {
			return err
		}
		if err := r.disk.Create(name); err != api.OK {
			return err
		}
		r.staged = &staging{label: labelOf(m)}
	}
	if m.At != r.staged.count {
		return api.OK
	}
	if err := r.disk.Append(name, m.Data); err != api.OK {
		return err
	}
	r.staged.count += len(m.Data)
	return api.OK
}

func (r *Replica) unstage() api.Errno {
	r.staged = nil
	return r.deleteSnap()
}

func (r *Replica) deleteSnap() api.Errno {
	err := r.disk.Delete(r.prefix + snapName)
	if err == api.ErrNoFile {
		return api.OK
	}
	return err
}

func (r *Replica) readSnap() ([]byte, api.Errno) {
	size, err := r.disk.Size(r.prefix + snapName)
	if err != api.OK {
		return nil, err
	}
	return r.disk.Read(r.prefix+snapName, 0, size)
}

// install puts what is staged in the place of all; nil: there is no room for it.
func (r *Replica) install() (*api.Ready, api.Errno) {
	x, err := r.stagedSnapshot()
	if err != api.OK {
		return nil, err
	}
	if !r.hasRoom(len(x.image.Runs)) {
		return nil, api.OK
	}
	r.abortJob()
	if err := r.replaceTree(x.image); err != api.OK {
		return nil, err
	}
	ready, err := r.step(api.Event{Kind: api.EInstalled, Index: x.image.Index, Term: x.term})
	if err := r.vital(err); err != api.OK {
		return nil, err
	}
	if err := r.vital(r.passOver(x)); err != api.OK {
		return nil, err
	}
	r.forgetUpTo(x.image.Index)
	return &ready, api.OK
}

// replaceTree installs an image. The machine is opened anew as soon as the tree is another one, whatever happens behind: so it never tells old sessions beside a new index.
func (r *Replica) replaceTree(x api.Image) api.Errno {
	installed := r.tree.Install(x)
	if r.tree.Applied() != x.Index {
		return installed
	}
	m, err := machine.Open(r.tree)
	if err == api.OK {
		r.machine = m
	} else if installed == api.OK {
		return r.vital(err)
	}
	return installed
}

// stagedSnapshot is what the file holds, once that is safe.
func (r *Replica) stagedSnapshot() (snapshot, api.Errno) {
	if err := r.disk.Sync(r.prefix + snapName); err != api.OK {
		return snapshot{}, err
	}
	b, err := r.readSnap()
	if err != api.OK {
		return snapshot{}, err
	}
	x, is := readSnapshot(b)
	if !is || x.image.Index != r.staged.index || x.term != r.staged.term {
		return snapshot{}, api.ErrSnap
	}
	return x, api.OK
}

// What an installing needs beyond the bytes of the snapshot and of the journal: bytes for each run that the manifest names, and as many more; files that are made while the old ones stand.
const (
	spareBytes = 4096
	spareFiles = 2
)

// hasRoom tells whether a snapshot of so many runs, once begun to be installed, can be to the end.
func (r *Replica) hasRoom(runs int) bool {
	need := r.staged.total + (runs+1)*spareBytes
	for _, name := range r.disk.List(r.prefix + segmentName) {
		size, _ := r.disk.Size(name)
		need += size
	}
	return r.disk.Free() >= need && len(r.disk.List("")) <= api.MaxFiles-runs-spareFiles
}

// forgetUpTo forgets the proposals that a snapshot passed over: how they were answered is not known here.
func (r *Replica) forgetUpTo(index int) {
	for i := range r.proposals {
		if i <= index {
			delete(r.proposals, i)
		}
	}
}

// goOnInstalled tells the sender that its snapshot is here, and goes on.
func (r *Replica) goOnInstalled(m api.Message, ready api.Ready) ([]api.Message, api.Errno) {
	more, err := r.goOn(ready)
	if err != api.OK {
		return nil, err
	}
	return append(r.got(m, m.Total), more...), api.OK
}
