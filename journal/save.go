package journal

import "strata/api"

// step is an act of the disk.
type step = func() api.Errno

func (j *Journal) isDown() bool { return j.cut || j.d.Down() }

// Save writes: what must never be forgotten, and, from from on, these entries (from 0: none is touched).
func (j *Journal) Save(h api.Hard, from int, l ...api.LogEntry) api.Errno {
	if j.isDown() {
		return api.ErrDown
	}
	if err := j.now.check(h, from, l); err != api.OK {
		return err
	}
	if h == j.now.hard && from == 0 {
		return api.OK
	}
	if err := j.write(recordFrame(h, from, l)); err != api.OK {
		return err
	}
	j.now.take(h, from, copied(l))
	return api.OK
}

// write puts a record behind all others.
func (j *Journal) write(record []byte) api.Errno {
	switch {
	case j.row.count() == 0:
		return j.beginAnew(&j.now, record)
	case j.row.torn || j.row.whole >= j.limit:
		return j.goOn(record)
	}
	return j.extend(record)
}

// beginAnew makes, at one stroke, a segment ahead of which nothing counts any more. Its bytes are synced ahead of its having a segment's name.
func (j *Journal) beginAnew(s *state, records []byte) api.Errno {
	num := j.row.last + 1
	if num > api.MaxIndex {
		return api.ErrFull
	}
	tmp := j.prefix + tmpName
	b := append(headOf(s, true, 0).frame(), records...)
	err := j.doOrUndo(tmp,
		func() api.Errno { return deleteIfThere(j.d, tmp) },
		func() api.Errno { return j.d.Create(tmp) },
		func() api.Errno { return j.append(tmp, b) },
		func() api.Errno { return j.d.Sync(tmp) },
		func() api.Errno { return j.d.Rename(tmp, nameOf(j.prefix, num)) },
	)
	if err == api.OK {
		j.row = row{first: num, last: num, whole: len(b)}
	}
	return err
}

// goOn writes a record into a segment of its own, behind the last one.
func (j *Journal) goOn(record []byte) api.Errno {
	num := j.row.last + 1
	if num > api.MaxIndex {
		return api.ErrFull
	}
	name := nameOf(j.prefix, num)
	b := append(headOf(&j.now, false, j.row.whole).frame(), record...)
	err := j.doOrUndo(name,
		func() api.Errno { return j.d.Create(name) },
		func() api.Errno { return j.append(name, b) },
		func() api.Errno { return j.d.Sync(name) },
	)
	if err == api.OK {
		j.row = row{first: j.row.first, last: num, whole: len(b)}
	}
	return err
}

// extend writes a record behind those of the last segment.
func (j *Journal) extend(record []byte) api.Errno {
	name := nameOf(j.prefix, j.row.last)
	err := j.do(
		func() api.Errno { return j.append(name, record) },
		func() api.Errno { return j.d.Sync(name) },
	)
	if err == api.OK {
		j.row.whole += len(record)
	}
	return err
}

// append: more bytes than any disk has room for have none on this one.
func (j *Journal) append(name string, b []byte) api.Errno {
	err := j.d.Append(name, b)
	if err == api.ErrLong {
		return api.ErrFull
	}
	return err
}

// do calls steps until one answers an error.
func (j *Journal) do(steps ...step) api.Errno {
	for _, s := range steps {
		if err := s(); err != api.OK {
			return j.noted(err)
		}
	}
	return api.OK
}

// doOrUndo calls steps that create this file, and takes the file away again if it finds no room.
func (j *Journal) doOrUndo(name string, steps ...step) (err api.Errno) {
	// Appending alone is refused with ErrFull. If power fails at the Delete, the want of room is still what is told.
	defer func() {
		if err == api.ErrFull {
			j.noted(j.d.Delete(name))
		}
	}()
	return j.do(steps...)
}

// noted hands an error on; from the first act on that was cut off nothing more may be written.
func (j *Journal) noted(err api.Errno) api.Errno {
	if err == api.ErrDown {
		j.cut = true
	}
	return err
}

// Trim lets go of the entries up to an index.
func (j *Journal) Trim(to int) api.Errno {
	switch {
	case j.isDown():
		return api.ErrDown
	case !within(to, j.now.base, j.now.last()):
		return api.ErrTrim
	case to == j.now.base:
		return api.OK
	}
	return j.replace(j.now.behind(to))
}

// Reset begins anew behind an index.
func (j *Journal) Reset(h api.Hard, index, term int) api.Errno {
	if j.isDown() {
		return api.ErrDown
	}
	if err := j.now.checkHard(h); err != api.OK {
		return err
	}
	if index < j.now.base || !mayBeBase(index, term, h) {
		return api.ErrTrim
	}
	return j.replace(state{hard: h, base: index, baseTerm: term})
}

// replace puts one segment that says this in the place of the row. Once it has its name, it counts, whatever becomes of the old ones.
func (j *Journal) replace(s state) api.Errno {
	old := j.row
	if err := j.beginAnew(&s, recordFrames(&s)); err != api.OK {
		return err
	}
	j.now = s
	for num := old.first; num <= old.last; num++ {
		if err := deleteIfThere(j.d, nameOf(j.prefix, num)); err != api.OK {
			return j.noted(err)
		}
	}
	return api.OK
}
