package order

import "strata/api"

// bounds are the least and the most that a number, or a length, may be; both 0: there is no such field.
type bounds struct {
	least, most int
}

func (b bounds) hold(n int) bool { return b.least <= n && n <= b.most }

func (b bounds) areThere() bool { return b.most > 0 }

// shape says which fields a command has.
type shape struct {
	client bounds // and a serial beside it
	row    bounds // its bytes
	conds  bounds // how many
	ops    bounds // how many
	amount bounds
	asks   bool
}

// shapes are those of the kinds of commands.
var shapes = [...]shape{
	api.MNoop:    {},
	api.MOpen:    {},
	api.MClose:   {client: bounds{1, api.MaxIndex}},
	api.MMutate:  {client: bounds{0, api.MaxIndex}, row: bounds{1, api.MaxRow}, conds: bounds{0, api.MaxConds}, ops: bounds{1, api.MaxOps}},
	api.MTick:    {client: bounds{0, api.MaxIndex}, amount: bounds{1, api.MaxTime}},
	api.MAdvance: {client: bounds{0, api.MaxIndex}, amount: bounds{0, api.MaxTime}},
	api.MRead:    {client: bounds{0, api.MaxIndex}, asks: true},
}

// condValues: how long a condition's value may be, by its kind.
var condValues = [...]int{
	api.CThere:  0,
	api.CAbsent: 0,
	api.CSame:   api.MaxValue,
	api.COther:  api.MaxValue,
	api.CBelow:  api.MaxValue,
	api.CAbove:  api.MaxValue,
}

// opShape says how long an op's byte strings may be and how great its Ts; adds: whether it has a Delta.
type opShape struct {
	qual, ts, value int
	adds            bool
}

// opShapes are those of the kinds of ops.
var opShapes = [...]opShape{
	api.OPut:  {qual: api.MaxQual, ts: api.MaxTime, value: api.MaxValue},
	api.OCell: {qual: api.MaxQual, ts: api.MaxTime},
	api.OCol:  {qual: api.MaxQual, ts: api.MaxTime},
	api.OFam:  {ts: api.MaxTime},
	api.OAdd:  {qual: api.MaxQual, adds: true},
}

func within(n, least, most int) bool { return bounds{least, most}.hold(n) }
