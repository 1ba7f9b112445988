package query

import (
	"bytes"
	"slices"

	"strata/api"
)

// Rows tells rows in the question's direction, one by one.
type Rows interface {
	Next() (api.Row, bool, api.Errno)
}

// Run answers a question, out of rows.
func Run(s api.Schema, q api.Query, clock int, src Rows) (api.Page, api.Errno) {
	if err := Check(s, q); err != api.OK {
		return api.Page{}, err
	}
	time, err := At(q, clock)
	if err != api.OK {
		return api.Page{}, err
	}
	if src == nil {
		return api.Page{}, api.ErrArg
	}
	a := newAsking(s, q)
	var page api.Page
	for len(page.Rows) < q.Rows {
		row, more, err := src.Next()
		if err == api.OK && more && !a.fits(row) {
			err = api.ErrRows
		}
		if err != api.OK {
			return api.Page{}, err
		}
		if !more || a.isBeyond(row.Row) {
			page.Done = true
			return page, api.OK
		}
		if cells := a.choose(row.Cells); len(cells) > 0 {
			page.Rows = append(page.Rows, api.Row{Row: bytes.Clone(row.Row), Cells: cells})
		}
		a.edge, a.bounded = edgeBehind(q.Reverse, row.Row), true
	}
	page.Token, err = writeToken(q, mark{time, page.Rows[q.Rows-1].Row})
	if err != api.OK {
		return api.Page{}, err
	}
	return page, api.OK
}

// asking is a question that is being answered: what it asks of rows and cells, and where the next row may stand.
type asking struct {
	query   api.Query
	fams    int // of the schema
	where   condition
	edge    []byte
	bounded bool // false: there is no edge, the next row may stand anywhere
}

// newAsking begins to answer a question that Check takes.
func newAsking(s api.Schema, q api.Query) *asking {
	a := &asking{query: q, fams: len(s.Fams), where: conditionOf(s, q.Where)}
	a.edge, a.bounded, _ = Start(q)
	return a
}

// fits tells whether a source may give this row now.
func (a *asking) fits(r api.Row) bool {
	if !within(len(r.Row), 1, api.MaxRow) || !a.isInOrder(r.Row) {
		return false
	}
	for _, c := range r.Cells {
		if !within(c.Fam, 0, a.fams-1) {
			return false
		}
	}
	return true
}

func (a *asking) isInOrder(row []byte) bool {
	if !a.bounded {
		return true
	}
	below := bytes.Compare(row, a.edge) < 0
	return below == a.query.Reverse
}

// isBeyond tells whether a row, and so each one behind it, is none that is asked for.
func (a *asking) isBeyond(row []byte) bool {
	if a.query.Reverse {
		return isAhead(a.query, row)
	}
	return isBehind(a.query, row)
}

// choose is what a question asks for of a row's cells, in new memory.
func (a *asking) choose(cells []api.Cell) []api.Cell {
	var chosen []api.Cell
	for _, c := range cells {
		if a.wants(c) {
			chosen = append(chosen, api.Cell{Fam: c.Fam, Qual: bytes.Clone(c.Qual), Ts: c.Ts, Value: bytes.Clone(c.Value)})
		}
	}
	return chosen
}

func (a *asking) wants(c api.Cell) bool {
	if len(a.query.Fams) > 0 && !slices.Contains(a.query.Fams, c.Fam) {
		return false
	}
	return bytes.HasPrefix(c.Qual, a.query.Prefix) && a.where(c)
}
