package retain

import (
	"bytes"
	"slices"

	"strata/api"
	"strata/cell"
)

// inOrder is the entries in order, each one once, if check takes them all; their bytes are still the caller's.
func inOrder(l []api.Entry, check func(api.Entry) api.Errno) ([]api.Entry, api.Errno) {
	for _, e := range l {
		if err := check(e); err != api.OK {
			return nil, err
		}
	}
	out, err := once(l)
	if err != api.OK {
		return nil, err
	}
	slices.SortFunc(out, cell.Compare)
	return out, api.OK
}

// once leaves out what is there already: the same Seq is the same entry.
func once(l []api.Entry) ([]api.Entry, api.Errno) {
	at := make(map[int]int, len(l))
	out := make([]api.Entry, 0, len(l))
	for _, e := range l {
		i, there := at[e.Seq]
		switch {
		case !there:
			at[e.Seq] = len(out)
			out = append(out, e)
		case !same(out[i], e):
			return nil, api.ErrTwice
		}
	}
	return out, api.OK
}

func same(a, b api.Entry) bool { return cell.Compare(a, b) == 0 && bytes.Equal(a.Value, b.Value) }

// clone is an entry that shares no bytes with e.
func clone(e api.Entry) api.Entry {
	e.Row, e.Qual, e.Value = bytes.Clone(e.Row), bytes.Clone(e.Qual), bytes.Clone(e.Value)
	return e
}
