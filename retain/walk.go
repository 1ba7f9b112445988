package retain

import (
	"bytes"
	"slices"

	"strata/api"
	"strata/cell"
)

// fate is what becomes of an entry.
type fate int

const (
	older   fate = iota + 1 // another entry decides its group, or it is the one pushed last
	masked                  // it decides a group that is out by the mask
	expired                 // it decides a group that is out by TTL
	above                   // it decides a group whose rank is above Max
	kept                    // it decides a group that is kept; a husk comes as its KHusk
	nothing                 // the greatest KCell of a group that is in, and nothing
	needed                  // a KCol or KFam that masks what no other one does
	spare                   // a KCol or KFam beside which another one masks as much
)

// verdict is what a walk says of an entry; rank is 0 where its group has none.
type verdict struct {
	entry api.Entry
	fate  fate
	rank  int
}

// walk goes over entries in order and says of each what becomes of it, as soon as it is decided; what is done with that is tell's business.
type walk struct {
	fams  []api.Family
	clock int
	tell  func(verdict)
	spot
}

// spot is where a walk stands.
type spot struct {
	begun   bool
	last    api.Entry // in memory of the walk's own
	family  int       // the mask of the row's family
	mask    int       // the mask of the column
	rank    int       // how many groups of the column have one
	waiting bool      // a KCell decides the last group, and there is no put or husk in it so far
	seq     int       // the Seq of that KCell
}

func newWalk(s api.Schema, clock int, tell func(verdict)) *walk {
	return &walk{fams: slices.Clone(s.Fams), clock: clock, tell: tell}
}

// check tells whether e may be an entry under the schema.
func (w *walk) check(e api.Entry) api.Errno {
	if err := cell.Check(e); err != api.OK {
		return err
	}
	if e.Fam >= len(w.fams) {
		return api.ErrFam
	}
	return api.OK
}

// over walks over a whole list, in whatever order it comes.
func (w *walk) over(l []api.Entry) api.Errno {
	sorted, err := inOrder(l, w.check)
	if err != api.OK {
		return err
	}
	for _, e := range sorted {
		w.step(e)
	}
	w.end()
	return api.OK
}

// push takes one step of a stream, if e may come next.
func (w *walk) push(e api.Entry) api.Errno {
	if err := w.check(e); err != api.OK {
		return err
	}
	if w.begun {
		switch place := cell.Compare(e, w.last); {
		case place < 0:
			return api.ErrOrder
		case place == 0 && same(e, w.last):
			w.tell(verdict{entry: e, fate: older})
			return api.OK
		case e.Seq == w.last.Seq:
			return api.ErrTwice
		}
	}
	w.step(e)
	return api.OK
}

// end decides what was left open; the walk is as new behind it.
func (w *walk) end() {
	w.resolve(api.KCell)
	w.spot = spot{}
}

// step goes on to e, which stands behind the last entry.
func (w *walk) step(e api.Entry) {
	goesOn := w.enter(e)
	switch {
	case e.Kind == api.KFam || e.Kind == api.KCol:
		w.stretch(e)
	case goesOn:
		if e.Kind != api.KCell {
			w.resolve(api.KHusk)
		}
		w.tell(verdict{entry: e, fate: older})
	case e.Kind == api.KCell:
		w.waiting, w.seq = true, e.Seq
	default:
		w.decide(e)
	}
	w.remember(e)
}

// enter leaves behind what ends ahead of e, and tells whether e goes on in the last entry's group.
func (w *walk) enter(e api.Entry) bool {
	sameFamily := w.begun && w.last.Fam == e.Fam && bytes.Equal(w.last.Row, e.Row)
	sameColumn := sameFamily && w.last.Kind != api.KFam && bytes.Equal(w.last.Qual, e.Qual)
	if sameColumn && w.last.Kind != api.KCol && w.last.Ts == e.Ts {
		return true
	}
	w.resolve(api.KCell)
	if !sameFamily {
		w.family = 0
	}
	if !sameColumn {
		w.mask, w.rank = w.family, 0
	}
	return false
}

// stretch lets a tombstone of a column or a family mask. The order brings the greatest one first: no later one masks more.
func (w *walk) stretch(e api.Entry) {
	if e.Ts <= w.mask {
		w.tell(verdict{entry: e, fate: spare})
		return
	}
	w.mask = e.Ts
	if e.Kind == api.KFam {
		w.family = e.Ts
	}
	w.tell(verdict{entry: e, fate: needed})
}

// resolve decides the group that waits, if one does, as what its KCell has turned out to be: KHusk or KCell.
func (w *walk) resolve(kind int) {
	if !w.waiting {
		return
	}
	w.waiting = false
	e := w.last
	e.Seq, e.Kind = w.seq, kind
	w.decide(e)
}

// decide says what becomes of the entry that decides a group.
func (w *walk) decide(e api.Entry) {
	family := w.fams[e.Fam]
	v := verdict{entry: e}
	switch {
	case e.Ts <= w.mask:
		v.fate = masked
	case family.TTL > 0 && e.Ts+family.TTL <= w.clock:
		v.fate = expired
	case e.Kind == api.KCell:
		v.fate = nothing
	default:
		w.rank++
		v.fate, v.rank = kept, w.rank
		if w.rank > family.Max {
			v.fate = above
		}
	}
	w.tell(v)
}

// remember copies e, whose bytes are the caller's, over the last entry.
func (w *walk) remember(e api.Entry) {
	row, qual, value := w.last.Row[:0], w.last.Qual[:0], w.last.Value[:0]
	w.begun, w.last = true, e
	w.last.Row, w.last.Qual, w.last.Value = append(row, e.Row...), append(qual, e.Qual...), append(value, e.Value...)
}
