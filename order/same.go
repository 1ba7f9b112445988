package order

import (
	"bytes"
	"slices"

	"strata/api"
)

// Same tells whether two commands are the same.
func Same(a, b api.Command) bool {
	return a.Kind == b.Kind && a.Client == b.Client && a.Serial == b.Serial && a.N == b.N &&
		bytes.Equal(a.Row, b.Row) && slices.EqualFunc(a.Conds, b.Conds, sameCond) &&
		slices.EqualFunc(a.Ops, b.Ops, sameOp) && sameQuery(a.Query, b.Query)
}

func sameCond(a, b api.Cond) bool {
	return a.Kind == b.Kind && a.Fam == b.Fam && bytes.Equal(a.Qual, b.Qual) && bytes.Equal(a.Value, b.Value)
}

func sameOp(a, b api.Op) bool {
	return a.Kind == b.Kind && a.Fam == b.Fam && bytes.Equal(a.Qual, b.Qual) && a.Ts == b.Ts &&
		bytes.Equal(a.Value, b.Value) && a.Delta == b.Delta
}

func sameQuery(a, b api.Query) bool {
	return bytes.Equal(a.From, b.From) && bytes.Equal(a.To, b.To) && slices.Equal(a.Fams, b.Fams) &&
		bytes.Equal(a.Prefix, b.Prefix) && a.Time == b.Time && a.N == b.N && a.Rows == b.Rows &&
		a.Reverse == b.Reverse && a.Where == b.Where && bytes.Equal(a.Token, b.Token)
}
