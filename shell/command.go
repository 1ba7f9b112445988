package shell

import (
	"strata/api"
	"strata/order"
)

// applying is the deed that applies a command and tells of its reply.
func applying(c api.Command, tell func(*Shell, api.Reply) []string) deed {
	return func(x *Shell) ([]string, api.Errno) {
		r, err := x.apply(c)
		if err != api.OK {
			return nil, err
		}
		return tell(x, r), api.OK
	}
}

// apply does a command at the next index: its reply, if that is no refusal.
func (x *Shell) apply(c api.Command) (api.Reply, api.Errno) {
	b, err := order.Encode(x.schema, c)
	if err != api.OK {
		return api.Reply{}, err
	}
	if b, err = x.machine.Apply(x.tree.Applied()+1, b); err != api.OK {
		return api.Reply{}, err
	}
	r, err := order.DecodeReply(b)
	if err != api.OK {
		return api.Reply{}, err
	}
	return r, r.Err
}

func tellNothing(*Shell, api.Reply) []string { return nil }

func tellValue(_ *Shell, r api.Reply) []string { return numbers(r.Value) }

func tellHeld(_ *Shell, r api.Reply) []string {
	held := "no"
	if r.Held {
		held = "yes"
	}
	return append([]string{held}, numbers(r.Value)...)
}

func tellPage(x *Shell, r api.Reply) []string { return x.page(r.Page) }

func readSession(*words) deed { return applying(api.Command{Kind: api.MOpen}, tellValue) }

func readEnd(w *words) deed {
	return applying(api.Command{Kind: api.MClose, Client: w.number(), Serial: w.number()}, tellNothing)
}

func readTick(w *words) deed {
	return applying(api.Command{Kind: api.MTick, N: w.number()}, tellValue)
}

func readAdvance(w *words) deed {
	return applying(api.Command{Kind: api.MAdvance, N: w.number()}, tellValue)
}

func readMutate(w *words) deed {
	c := api.Command{Kind: api.MMutate, Client: w.number(), Serial: w.number(), Row: w.literal()}
	for w.skip("if") {
		c.Conds = append(c.Conds, readCond(w))
	}
	c.Ops = append(c.Ops, readOp(w))
	for len(w.left) > 0 {
		c.Ops = append(c.Ops, readOp(w))
	}
	return applying(c, tellHeld)
}

func readAsk(w *words) deed {
	c := api.Command{Kind: api.MRead, Client: w.number(), Serial: w.number(), Query: readQuestion(w)}
	return applying(c, tellPage)
}

// condNames are those of the kinds of conditions.
var condNames = [...]string{
	api.CThere:  "there",
	api.CAbsent: "absent",
	api.CSame:   "same",
	api.COther:  "other",
	api.CBelow:  "below",
	api.CAbove:  "above",
}

func (w *words) condKind() int {
	name := w.name()
	for kind, known := range condNames {
		if known == name {
			return kind
		}
	}
	w.giveUp()
	return 0
}

func readCond(w *words) api.Cond {
	kind := w.condKind()
	c := api.Cond{Kind: kind, Fam: w.family(), Qual: w.literal()}
	if kind != api.CThere && kind != api.CAbsent {
		c.Value = w.literal()
	}
	return c
}

// opForm is the name of a kind of ops, and which words it has behind its family.
type opForm struct {
	name                   string
	qual, ts, value, delta bool
}

// opForms are those of the kinds of ops.
var opForms = [...]opForm{
	api.OPut:  {name: "put", qual: true, ts: true, value: true},
	api.OCell: {name: "cell", qual: true, ts: true},
	api.OCol:  {name: "col", qual: true, ts: true},
	api.OFam:  {name: "fam", ts: true},
	api.OAdd:  {name: "add", qual: true, delta: true},
}

func (w *words) opKind() int {
	name := w.name()
	for kind, f := range opForms {
		if f.name == name {
			return kind
		}
	}
	w.giveUp()
	return 0
}

func readOp(w *words) api.Op {
	kind := w.opKind()
	f := opForms[kind]
	o := api.Op{Kind: kind, Fam: w.family()}
	if f.qual {
		o.Qual = w.literal()
	}
	if f.ts {
		o.Ts = w.number()
	}
	if f.value {
		o.Value = w.literal()
	}
	if f.delta {
		o.Delta = w.number()
	}
	return o
}
