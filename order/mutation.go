package order

import "strata/api"

func checkConds(s api.Schema, c api.Command) api.Errno {
	if !shapes[c.Kind].conds.hold(len(c.Conds)) {
		return api.ErrCond
	}
	for _, x := range c.Conds {
		if !isCond(s, x) {
			return api.ErrCond
		}
	}
	return api.OK
}

func writeConds(w *writer, c api.Command) {
	if shapes[c.Kind].conds.areThere() {
		putList(w, c.Conds, (*writer).cond)
	}
}

func readConds(r *reader, c *api.Command) {
	if shapes[c.Kind].conds.areThere() {
		c.Conds = takeList(r, (*reader).cond)
	}
}

func checkOps(s api.Schema, c api.Command) api.Errno {
	if !shapes[c.Kind].ops.hold(len(c.Ops)) {
		return api.ErrOps
	}
	for _, o := range c.Ops {
		if !isOp(s, o) {
			return api.ErrOp
		}
	}
	return api.OK
}

func writeOps(w *writer, c api.Command) {
	if shapes[c.Kind].ops.areThere() {
		putList(w, c.Ops, (*writer).op)
	}
}

func readOps(r *reader, c *api.Command) {
	if shapes[c.Kind].ops.areThere() {
		c.Ops = takeList(r, (*reader).op)
	}
}

func isFam(s api.Schema, fam int) bool { return within(fam, 0, len(s.Fams)-1) }

func isCond(s api.Schema, c api.Cond) bool {
	return within(c.Kind, api.CThere, api.CAbove) && isFam(s, c.Fam) &&
		len(c.Qual) <= api.MaxQual && len(c.Value) <= condValues[c.Kind]
}

func (w *writer) cond(c api.Cond) {
	w.one(c.Kind)
	w.one(c.Fam)
	w.text(c.Qual)
	w.text(c.Value)
}

func (r *reader) cond() api.Cond {
	var c api.Cond
	c.Kind = r.one()
	c.Fam = r.one()
	c.Qual = r.text()
	c.Value = r.text()
	return c
}

func isOp(s api.Schema, o api.Op) bool {
	if !within(o.Kind, api.OPut, api.OAdd) || !isFam(s, o.Fam) {
		return false
	}
	has := opShapes[o.Kind]
	return len(o.Qual) <= has.qual && within(o.Ts, 0, has.ts) &&
		len(o.Value) <= has.value && (has.adds || o.Delta == 0)
}

func (w *writer) op(o api.Op) {
	w.one(o.Kind)
	w.one(o.Fam)
	w.text(o.Qual)
	w.number(o.Ts)
	w.text(o.Value)
	w.word(o.Delta)
}

func (r *reader) op() api.Op {
	var o api.Op
	o.Kind = r.one()
	o.Fam = r.one()
	o.Qual = r.text()
	o.Ts = r.number()
	o.Value = r.text()
	o.Delta = r.word()
	return o
}
