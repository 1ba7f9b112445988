// Package cell: entries, their keys and their order; schemas: see DOC.md, chapter 2.
package cell

import (
	"bytes"
	"cmp"

	"strata/api"
)

// comparison tells which of two entries is ahead in one respect: below 0: a; 0: it does not part them.
type comparison func(a, b api.Entry) int

// Check tells whether the values may be an entry.
func Check(e api.Entry) api.Errno {
	switch {
	case !isRow(e.Row):
		return api.ErrRow
	case e.Fam < 0 || e.Fam >= api.MaxFams:
		return api.ErrFam
	case len(e.Qual) > api.MaxQual || len(e.Qual) > 0 && e.Kind == api.KFam:
		return api.ErrQual
	case e.Ts < 1 || e.Ts > api.MaxTime:
		return api.ErrTs
	case e.Seq < 0 || e.Seq > api.MaxSeq:
		return api.ErrSeq
	case e.Kind < api.KPut || e.Kind > api.KFam:
		return api.ErrKind
	case len(e.Value) > api.MaxValue || len(e.Value) > 0 && e.Kind != api.KPut:
		return api.ErrValue
	}
	return api.OK
}

func isRow(row []byte) bool { return len(row) > 0 && len(row) <= api.MaxRow }

// Compare tells which entry comes first: below 0: a.
func Compare(a, b api.Entry) int {
	for _, compare := range order() {
		if n := compare(a, b); n != 0 {
			return n
		}
	}
	return 0
}

// order is THE ORDER: the first of these that parts two entries decides. Tombstones of a family, and of a column, stand ahead of what they mask.
func order() [8]comparison {
	return [8]comparison{
		func(a, b api.Entry) int { return bytes.Compare(a.Row, b.Row) },
		func(a, b api.Entry) int { return cmp.Compare(a.Fam, b.Fam) },
		func(a, b api.Entry) int { return aheadIf(a, b, api.KFam) },
		func(a, b api.Entry) int { return bytes.Compare(a.Qual, b.Qual) },
		func(a, b api.Entry) int { return aheadIf(a, b, api.KCol) },
		func(a, b api.Entry) int { return cmp.Compare(b.Ts, a.Ts) },
		func(a, b api.Entry) int { return cmp.Compare(b.Seq, a.Seq) },
		func(a, b api.Entry) int { return cmp.Compare(a.Kind, b.Kind) },
	}
}

// aheadIf puts what is of a kind ahead of what is not, by the same marks that keys have.
func aheadIf(a, b api.Entry, kind int) int {
	return cmp.Compare(markOf(a.Kind, kind), markOf(b.Kind, kind))
}
