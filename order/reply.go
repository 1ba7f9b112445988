package order

import "strata/api"

// mostErr is the greatest error number that a reply may have.
const mostErr = 999

func isReply(r api.Reply) bool { return isErr(r.Err) && r.Value >= 0 && areRows(r.Page.Rows) }

func isErr(e api.Errno) bool { return within(int(e), 0, mostErr) }

func areRows(rows []api.Row) bool {
	if len(rows) > api.MaxRows {
		return false
	}
	for _, row := range rows {
		if !isRow(row) {
			return false
		}
	}
	return true
}

func isRow(row api.Row) bool {
	if !within(len(row.Row), 1, api.MaxRow) {
		return false
	}
	for _, c := range row.Cells {
		if !isCell(c) {
			return false
		}
	}
	return true
}

func isCell(c api.Cell) bool {
	return within(c.Fam, 0, api.MaxFams-1) && len(c.Qual) <= api.MaxQual &&
		within(c.Ts, 1, api.MaxTime) && len(c.Value) <= api.MaxValue
}

func (w *writer) reply(r api.Reply) {
	w.number(int(r.Err))
	w.flag(r.Held)
	w.number(r.Value)
	putList(w, r.Page.Rows, (*writer).row)
	w.text(r.Page.Token)
	w.flag(r.Page.Done)
}

// replySteps read a field each; those of Err and of the rows refuse what may not be.
func replySteps() []step[api.Reply] {
	return []step[api.Reply]{readErr, readHeld, readValue, readRows, readToken, readDone}
}

func readErr(r *reader, reply *api.Reply) bool {
	reply.Err = api.Errno(r.number())
	return isErr(reply.Err)
}

func readHeld(r *reader, reply *api.Reply) bool {
	reply.Held = r.flag()
	return true
}

func readValue(r *reader, reply *api.Reply) bool {
	reply.Value = r.number()
	return true
}

func readRows(r *reader, reply *api.Reply) bool {
	reply.Page.Rows = takeList(r, (*reader).row)
	return areRows(reply.Page.Rows)
}

func readToken(r *reader, reply *api.Reply) bool {
	reply.Page.Token = r.text()
	return true
}

func readDone(r *reader, reply *api.Reply) bool {
	reply.Page.Done = r.flag()
	return true
}

func (w *writer) row(row api.Row) {
	w.text(row.Row)
	putList(w, row.Cells, (*writer).cell)
}

func (r *reader) row() api.Row {
	var row api.Row
	row.Row = r.text()
	row.Cells = takeList(r, (*reader).cell)
	return row
}

func (w *writer) cell(c api.Cell) {
	w.one(c.Fam)
	w.text(c.Qual)
	w.number(c.Ts)
	w.text(c.Value)
}

func (r *reader) cell() api.Cell {
	var c api.Cell
	c.Fam = r.one()
	c.Qual = r.text()
	c.Ts = r.number()
	c.Value = r.text()
	return c
}
