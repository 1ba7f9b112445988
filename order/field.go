package order

import (
	"strata/api"
	"strata/query"
)

// field is one of a command, or two that go together: how it is checked, and how it is written and read, if the command's kind has it.
type field struct {
	check func(s api.Schema, c api.Command) api.Errno
	write func(w *writer, c api.Command)
	read  func(r *reader, c *api.Command)
}

// commandFields are in the order in which they are checked, which is that of their bytes. The kind comes first: the others lean on its being one.
func commandFields() []field {
	return []field{
		{checkKind, writeKind, readKind},
		{checkSender, writeSender, readSender},
		{checkRow, writeRow, readRow},
		{checkConds, writeConds, readConds},
		{checkOps, writeOps, readOps},
		{checkAmount, writeAmount, readAmount},
		{checkQuery, writeQuery, readQuery},
	}
}

// commandSteps read a field each, and refuse it if it may not be.
func commandSteps(s api.Schema) []step[api.Command] {
	var steps []step[api.Command]
	for _, f := range commandFields() {
		steps = append(steps, func(r *reader, c *api.Command) bool {
			f.read(r, c)
			return f.check(s, *c) == api.OK
		})
	}
	return steps
}

func checkKind(_ api.Schema, c api.Command) api.Errno {
	if !within(c.Kind, api.MNoop, api.MRead) {
		return api.ErrCommandKind
	}
	return api.OK
}

func writeKind(w *writer, c api.Command) { w.one(c.Kind) }

func readKind(r *reader, c *api.Command) { c.Kind = r.one() }

func checkSender(_ api.Schema, c api.Command) api.Errno {
	if !shapes[c.Kind].client.hold(c.Client) {
		return api.ErrClient
	}
	if !within(c.Serial, 0, api.MaxIndex) || (c.Serial == 0) != (c.Client == 0) {
		return api.ErrNoSerial
	}
	return api.OK
}

func writeSender(w *writer, c api.Command) {
	if shapes[c.Kind].client.areThere() {
		w.number(c.Client)
		w.number(c.Serial)
	}
}

func readSender(r *reader, c *api.Command) {
	if shapes[c.Kind].client.areThere() {
		c.Client = r.number()
		c.Serial = r.number()
	}
}

func checkRow(_ api.Schema, c api.Command) api.Errno {
	if !shapes[c.Kind].row.hold(len(c.Row)) {
		return api.ErrRow
	}
	return api.OK
}

func writeRow(w *writer, c api.Command) {
	if shapes[c.Kind].row.areThere() {
		w.text(c.Row)
	}
}

func readRow(r *reader, c *api.Command) {
	if shapes[c.Kind].row.areThere() {
		c.Row = r.text()
	}
}

func checkAmount(_ api.Schema, c api.Command) api.Errno {
	if !shapes[c.Kind].amount.hold(c.N) {
		return api.ErrAmount
	}
	return api.OK
}

func writeAmount(w *writer, c api.Command) {
	if shapes[c.Kind].amount.areThere() {
		w.number(c.N)
	}
}

func readAmount(r *reader, c *api.Command) {
	if shapes[c.Kind].amount.areThere() {
		c.N = r.number()
	}
}

func checkQuery(s api.Schema, c api.Command) api.Errno {
	if shapes[c.Kind].asks {
		return query.Check(s, c.Query)
	}
	if !sameQuery(c.Query, api.Query{}) {
		return api.ErrQuery
	}
	return api.OK
}

func writeQuery(w *writer, c api.Command) {
	if shapes[c.Kind].asks {
		w.query(c.Query)
	}
}

func readQuery(r *reader, c *api.Command) {
	if shapes[c.Kind].asks {
		c.Query = r.query()
	}
}

func (w *writer) query(q api.Query) {
	w.text(q.From)
	w.text(q.To)
	putList(w, q.Fams, (*writer).number)
	w.text(q.Prefix)
	w.number(q.Time)
	w.number(q.N)
	w.number(q.Rows)
	w.flag(q.Reverse)
	w.text([]byte(q.Where))
	w.text(q.Token)
}

func (r *reader) query() api.Query {
	var q api.Query
	q.From = r.text()
	q.To = r.text()
	q.Fams = takeList(r, (*reader).number)
	q.Prefix = r.text()
	q.Time = r.number()
	q.N = r.number()
	q.Rows = r.number()
	q.Reverse = r.flag()
	q.Where = string(r.text())
	q.Token = r.text()
	return q
}
