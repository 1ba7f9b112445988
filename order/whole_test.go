package order_test

import (
	"bytes"
	"math/rand"
	"slices"
	"strconv"
	"testing"

	"strata/api"
	"strata/order"
	"strata/query"
)

// rowsOf is a source that gives rows from query.Start on.
type rowsOf struct{ left []api.Row }

func (s *rowsOf) Next() (api.Row, bool, api.Errno) {
	if len(s.left) == 0 {
		return api.Row{}, false, api.OK
	}
	row := s.left[0]
	s.left = s.left[1:]
	return row, true, api.OK
}

func sourceOf(t *testing.T, q api.Query, rows []api.Row) *rowsOf {
	t.Helper()
	start, is, err := query.Start(q)
	mustErr(t, "Start", err, api.OK)
	src := &rowsOf{}
	for _, row := range rows {
		if below := bytes.Compare(row.Row, start) < 0; !is || below == q.Reverse {
			src.left = append(src.left, row)
		}
	}
	if q.Reverse {
		slices.Reverse(src.left)
	}
	return src
}

// 14.3, 14.6, 14.9: whoever asks by bytes and is answered by bytes, page by page, with the tokens that come back, reads what whoever asks at once reads.
func TestPagesByBytes(t *testing.T) {
	r := rand.New(rand.NewSource(14))
	var rows []api.Row
	for i := range 40 {
		row := api.Row{Row: []byte("r" + strconv.Itoa(100+i))}
		for f := range 2 {
			row.Cells = append(row.Cells, api.Cell{Fam: f, Qual: []byte("x"), Ts: 1 + r.Intn(9), Value: drawText(r, 0, 4096)})
		}
		rows = append(rows, row)
	}
	for range 200 {
		q := api.Query{N: 1, Rows: 1000, Reverse: r.Intn(2) == 0, Where: []string{"", "ts > 4", "fam = b"}[r.Intn(3)]}
		if r.Intn(2) == 0 {
			q.From, q.To = []byte("r103"), []byte("r12")
		}
		want, err := query.Run(two, q, 9, sourceOf(t, q, rows))
		mustErr(t, "Run", err, api.OK)
		var got []api.Row
		for done, serial := false, 1; !done; serial++ {
			q.Rows = 1 + r.Intn(9)
			c, err := order.Decode(two, encode(t, two, of(api.MRead, sender(1, serial), asks(q))))
			mustErr(t, "Decode", err, api.OK)
			page, err := query.Run(two, c.Query, 9, sourceOf(t, c.Query, rows))
			mustErr(t, "Run", err, api.OK)
			reply, err := order.DecodeReply(encodeReply(t, api.Reply{Page: page}))
			mustErr(t, "DecodeReply", err, api.OK)
			got = append(got, reply.Page.Rows...)
			q.Token, done = reply.Page.Token, reply.Page.Done
		}
		if !same(got, want.Rows) {
			t.Fatalf("%+v: %d rows, want %d", q, len(got), len(want.Rows))
		}
	}
}
