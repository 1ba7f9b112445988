package machine_test

import (
	"bytes"
	"cmp"
	"reflect"
	"slices"
	"strconv"
	"strings"
	"testing"

	"strata/api"
	"strata/cell"
	"strata/disk"
	"strata/machine"
	"strata/merge"
	"strata/order"
	"strata/query"
	"strata/retain"
	"strata/tree"
	"strata/wire"
)

func mustErr(t testing.TB, what string, got, want api.Errno) {
	t.Helper()
	if got != want {
		t.Fatalf("%s: %d, want %d", what, got, want)
	}
}

// plain makes nil of all lists that are empty, so that they are the same.
func plain(v reflect.Value) {
	switch v.Kind() {
	case reflect.Slice:
		if v.Len() == 0 {
			v.SetZero()
		}
		for i := range v.Len() {
			plain(v.Index(i))
		}
	case reflect.Struct:
		for i := range v.NumField() {
			plain(v.Field(i))
		}
	}
}

// same: nil and empty lists are.
func same[T any](a, b T) bool {
	plain(reflect.ValueOf(&a).Elem())
	plain(reflect.ValueOf(&b).Elem())
	return reflect.DeepEqual(a, b)
}

// one: a family as in the chapter's examples.
var one = api.Schema{Fams: []api.Family{{Name: "f", Max: 2}}}

// two: another one beside it, whose versions go with time.
var two = api.Schema{Fams: []api.Family{{Name: "f", Max: 2}, {Name: "g", Max: 3, TTL: 10}}}

func options() api.Options { return api.Options{Block: 64, Bits: 8, Mem: 1 << 16, Stall: 64} }

// bench is a machine with what it stands on.
type bench struct {
	testing.TB
	s api.Schema
	d *disk.Disk
	x *tree.Tree
	m *machine.Machine
}

func begin(t testing.TB, s api.Schema) *bench {
	t.Helper()
	d, err := disk.New(1 << 24)
	mustErr(t, "disk.New", err, api.OK)
	b := &bench{TB: t, s: s, d: d}
	b.open()
	return b
}

func (b *bench) openTree() {
	b.Helper()
	var err api.Errno
	b.x, err = tree.Open(b.d, "x", b.s, options())
	mustErr(b, "tree.Open", err, api.OK)
}

// open opens all anew, as it was flushed last.
func (b *bench) open() {
	b.Helper()
	b.openTree()
	b.openMachine()
}

func (b *bench) openMachine() {
	b.Helper()
	var err api.Errno
	b.m, err = machine.Open(b.x)
	if b.m == nil || err != api.OK {
		b.Fatalf("Open: %v, %d", b.m, err)
	}
}

// installed is a bench whose tree stands at an index, a clock and a low that nobody would wait for.
func installed(t testing.TB, s api.Schema, x api.Image) *bench {
	t.Helper()
	b := begin(t, s)
	mustErr(t, "Install", b.x.Install(x), api.OK)
	b.openMachine()
	return b
}

func (b *bench) encode(c api.Command) []byte {
	b.Helper()
	raw, err := order.Encode(b.s, c)
	if err != api.OK {
		b.Fatalf("Encode(%+v): %d", c, err)
	}
	return raw
}

// raw applies bytes at the next index: the reply's.
func (b *bench) raw(command []byte) []byte {
	b.Helper()
	index := b.x.Applied() + 1
	reply, err := b.m.Apply(index, command)
	mustErr(b, "Apply "+strconv.Itoa(index), err, api.OK)
	if b.x.Applied() != index {
		b.Fatalf("Applied is %d behind %d", b.x.Applied(), index)
	}
	return reply
}

func decode(t testing.TB, reply []byte) api.Reply {
	t.Helper()
	r, err := order.DecodeReply(reply)
	mustErr(t, "DecodeReply", err, api.OK)
	return r
}

// do applies a command at the next index: its reply.
func (b *bench) do(c api.Command) api.Reply {
	b.Helper()
	return decode(b, b.raw(b.encode(c)))
}

// want applies a command whose reply must be that.
func (b *bench) want(c api.Command, want api.Reply) {
	b.Helper()
	if got := b.do(c); !same(got, want) {
		b.Fatalf("index %d: %+v: %+v, want %+v", b.x.Applied(), c, got, want)
	}
}

func refused(err api.Errno) api.Reply { return api.Reply{Err: err} }

func value(n int) api.Reply { return api.Reply{Value: n} }

func held(n int) api.Reply { return api.Reply{Held: true, Value: n} }

func tick(n int) api.Command { return api.Command{Kind: api.MTick, N: n} }

func advance(n int) api.Command { return api.Command{Kind: api.MAdvance, N: n} }

func read(q api.Query) api.Command { return api.Command{Kind: api.MRead, Query: q} }

func in(client, serial int, c api.Command) api.Command {
	c.Client, c.Serial = client, serial
	return c
}

var noop, openSession, closeSession = api.Command{Kind: api.MNoop}, api.Command{Kind: api.MOpen}, api.Command{Kind: api.MClose}

func mutate(row string, ops ...api.Op) api.Command {
	return api.Command{Kind: api.MMutate, Row: []byte(row), Ops: ops}
}

func given(c api.Command, conds ...api.Cond) api.Command {
	c.Conds = conds
	return c
}

func put(qual string, ts int, value string) api.Op {
	return api.Op{Kind: api.OPut, Qual: []byte(qual), Ts: ts, Value: []byte(value)}
}

func kill(kind int, qual string, ts int) api.Op {
	return api.Op{Kind: kind, Qual: []byte(qual), Ts: ts}
}

func add(qual string, n int) api.Op { return api.Op{Kind: api.OAdd, Qual: []byte(qual), Delta: n} }

// ofG is an op of the second family.
func ofG(op api.Op) api.Op {
	op.Fam = 1
	return op
}

func cond(kind int, qual, value string) api.Cond {
	return api.Cond{Kind: kind, Qual: []byte(qual), Value: []byte(value)}
}

// rising is a number as OAdd writes it.
func rising(n int) string {
	b, _ := wire.Rising(n)
	return string(b)
}

// everything: all that is visible, whenever it was written.
var everything = api.Query{N: 16, Rows: 1000, Time: api.MaxTime}

// textOf is rows as `a: q@1="x" n@6="y"; b: ..`; a number in eight bytes as itself.
func textOf(rows []api.Row) string {
	var out []string
	for _, r := range rows {
		w := string(r.Row) + ":"
		for _, c := range r.Cells {
			v := strconv.Quote(string(c.Value))
			if n, end, err := wire.ReadRising(c.Value, 0); err == api.OK && end == len(c.Value) {
				v = strconv.Itoa(n)
			}
			w += " " + strings.Repeat("g.", c.Fam) + string(c.Qual) + "@" + strconv.Itoa(c.Ts) + "=" + v
		}
		out = append(out, w)
	}
	return strings.Join(out, "; ")
}

// shows: what a question tells.
func (b *bench) shows(q api.Query, want string) {
	b.Helper()
	p, err := b.m.Query(q)
	if got := textOf(p.Rows); err != api.OK || got != want {
		b.Fatalf("%s, %d; want %s", got, err, want)
	}
}

// sessionsOf is sessions as "1:2@5+ 4:0@1": client, serial, seen, and + where there is a reply.
func sessionsOf(l []api.Session) string {
	var out []string
	for _, x := range l {
		w := strconv.Itoa(x.Client) + ":" + strconv.Itoa(x.Serial) + "@" + strconv.Itoa(x.Seen)
		if len(x.Reply) > 0 {
			w += "+"
		}
		out = append(out, w)
	}
	return strings.Join(out, " ")
}

func (b *bench) has(sessions string) {
	b.Helper()
	if got := sessionsOf(b.m.Stat().Sessions); got != sessions {
		b.Fatalf("index %d: sessions %s, want %s", b.x.Applied(), got, sessions)
	}
}

// entries are all that the tree has, in order.
func (b *bench) entries() []api.Entry {
	b.Helper()
	v, err := b.x.Pin()
	mustErr(b, "Pin", err, api.OK)
	defer v.Release()
	s, err := v.Walk(nil, nil)
	mustErr(b, "Walk", err, api.OK)
	l, err := merge.Take(s, 1<<30)
	mustErr(b, "Take", err, api.OK)
	return l
}

func (b *bench) digest() uint32 {
	b.Helper()
	n, err := b.m.Digest()
	mustErr(b, "Digest", err, api.OK)
	return n
}

// picture is all that can be told of a machine without changing it.
type picture struct {
	stat   api.MachineStat
	state  []byte
	digest uint32
	page   api.Page
}

func (b *bench) picture() picture {
	b.Helper()
	page, err := b.m.Query(everything)
	mustErr(b, "Query", err, api.OK)
	return picture{b.m.Stat(), b.m.State(), b.digest(), page}
}

func samePicture(a, b picture) bool {
	return same(a.stat, b.stat) && bytes.Equal(a.state, b.state) && a.digest == b.digest && same(a.page, b.page)
}

// model is a machine by the chapter's words, told a second time: all entries that ever came, in one list, and no tree.
type model struct {
	s                   api.Schema
	applied, clock, low int
	entries             []api.Entry
	sessions            []api.Session // by rising Client
	crowded             bool          // many sessions are drawn
}

func newModel(s api.Schema) *model { return &model{s: s, clock: 1} }

// copy is what the model is now; lists are never written over.
func (m *model) copy() *model {
	c := *m
	c.entries = slices.Clip(m.entries)
	c.sessions = slices.Clone(m.sessions)
	return &c
}

func replyBytes(r api.Reply) []byte {
	b, err := order.EncodeReply(r)
	if err != api.OK {
		b, _ = order.EncodeReply(api.Reply{Err: err})
	}
	return b
}

// apply: 15.3, 15.4.
func (m *model) apply(command []byte) []byte {
	m.applied++
	c, err := order.Decode(m.s, command)
	if err != api.OK {
		return replyBytes(refused(err))
	}
	if c.Client == 0 {
		return replyBytes(m.do(c))
	}
	x := m.session(c.Client)
	if x == nil {
		return replyBytes(refused(api.ErrSession))
	}
	was := *x
	if c.Serial == was.Serial && len(was.Reply) > 0 {
		x.Seen = m.clock
		return was.Reply
	}
	if c.Serial == was.Serial && c.Kind == api.MRead {
		reply := replyBytes(m.do(c))
		x.Seen = m.clock
		return reply
	}
	if c.Serial != was.Serial+1 {
		return replyBytes(refused(api.ErrSerial))
	}
	reply := replyBytes(m.do(c))
	if x := m.session(c.Client); x != nil {
		x.Serial, x.Seen, x.Reply = c.Serial, m.clock, reply
		if c.Kind == api.MRead {
			x.Reply = nil
		}
	}
	return reply
}

func (m *model) session(client int) *api.Session {
	for i := range m.sessions {
		if m.sessions[i].Client == client {
			return &m.sessions[i]
		}
	}
	return nil
}

func (m *model) endIf(ends func(api.Session) bool) {
	m.sessions = slices.DeleteFunc(slices.Clone(m.sessions), ends)
}

// do: the table of 15.3.
func (m *model) do(c api.Command) api.Reply {
	switch c.Kind {
	case api.MOpen:
		if len(m.sessions) == 16 {
			return refused(api.ErrSessions)
		}
		m.sessions = append(m.sessions, api.Session{Client: m.applied, Seen: m.clock})
		return value(m.applied)
	case api.MTick:
		if m.clock+c.N > 1<<40 {
			return refused(api.ErrLast)
		}
		m.clock += c.N
		m.endIf(func(x api.Session) bool { return x.Seen+64 <= m.clock })
		return value(m.clock)
	case api.MAdvance:
		if c.N < m.low || c.N >= m.clock {
			return refused(api.ErrBack)
		}
		m.low = c.N
		return value(c.N)
	case api.MClose:
		m.endIf(func(x api.Session) bool { return x.Client == c.Client })
	case api.MMutate:
		return m.mutate(c)
	case api.MRead:
		page, err := m.query(c.Query)
		return api.Reply{Err: err, Page: page}
	}
	return api.Reply{}
}

// column: 3: the versions and the tombstones of a column, those of its family too.
func column(l []api.Entry, row []byte, fam int, qual []byte) []api.Entry {
	var out []api.Entry
	for _, e := range l {
		if bytes.Equal(e.Row, row) && e.Fam == fam && (e.Kind == api.KFam || bytes.Equal(e.Qual, qual)) {
			out = append(out, e)
		}
	}
	return out
}

// newest visible entry of a column.
func (m *model) newest(l []api.Entry) (api.Entry, bool) {
	visible, _ := retain.Vis(m.s, m.clock, l...)
	if len(visible) == 0 {
		return api.Entry{}, false
	}
	return slices.MaxFunc(visible, func(a, b api.Entry) int { return cmp.Compare(a.Ts, b.Ts) }), true
}

// mutate: 15.5.
func (m *model) mutate(c api.Command) api.Reply {
	for _, x := range c.Conds {
		e, is := m.newest(column(m.entries, c.Row, x.Fam, x.Qual))
		v, w := string(e.Value), string(x.Value)
		holds := map[int]bool{api.CThere: is, api.CAbsent: !is, api.CSame: is && v == w, api.COther: is && v != w, api.CBelow: is && v < w, api.CAbove: is && v > w}
		if !holds[x.Kind] {
			return api.Reply{}
		}
	}
	kinds := map[int]int{api.OPut: api.KPut, api.OCell: api.KCell, api.OCol: api.KCol, api.OFam: api.KFam, api.OAdd: api.KPut}
	all, reply := slices.Clip(m.entries), held(0)
	for i, op := range c.Ops {
		e := api.Entry{Row: c.Row, Fam: op.Fam, Qual: op.Qual, Ts: op.Ts, Seq: 16*m.applied + i, Kind: kinds[op.Kind], Value: op.Value}
		if e.Ts == 0 {
			e.Ts = m.clock
		}
		if e.Ts <= m.low {
			return refused(api.ErrLate)
		}
		if op.Kind == api.OAdd {
			l := column(all, c.Row, op.Fam, op.Qual)
			n := uint64(0)
			if x, is := m.newest(l); is {
				if len(x.Value) != 8 || x.Value[0] > 127 {
					return refused(api.ErrNumber)
				}
				for _, b := range x.Value {
					n = n<<8 | uint64(b)
				}
			}
			// Of both as numbers without a sign the sum has 64 bits, and what is out of bounds has the highest.
			if n += uint64(op.Delta); n > 1<<63-1 {
				return refused(api.ErrNumber)
			}
			top, _ := retain.Top(m.s, m.clock, l...)
			e.Ts = max(m.clock, top)
			e.Value = []byte(rising(int(n)))
			reply.Value = int(n)
		}
		all = append(all, e)
	}
	m.entries = all
	return reply
}

// rows: 15.6.
func (m *model) rows(q api.Query) ([]api.Row, api.Errno) {
	if err := query.Check(m.s, q); err != api.OK {
		return nil, err
	}
	start, is, _ := query.Start(q)
	at, _ := query.At(q, m.clock)
	read, err := retain.Read(m.s, m.clock, at, q.N, m.entries...)
	if err != api.OK {
		return nil, err
	}
	var rows []api.Row
	for _, e := range read {
		if below := bytes.Compare(e.Row, start) < 0; is && below != q.Reverse {
			continue
		}
		if n := len(rows); n == 0 || !bytes.Equal(rows[n-1].Row, e.Row) {
			rows = append(rows, api.Row{Row: e.Row})
		}
		r := &rows[len(rows)-1]
		r.Cells = append(r.Cells, api.Cell{Fam: e.Fam, Qual: e.Qual, Ts: e.Ts, Value: e.Value})
	}
	if q.Reverse {
		slices.Reverse(rows)
	}
	return rows, api.OK
}

// list is a source of rows.
type list struct{ rows []api.Row }

func (l *list) Next() (api.Row, bool, api.Errno) {
	if len(l.rows) == 0 {
		return api.Row{}, false, api.OK
	}
	r := l.rows[0]
	l.rows = l.rows[1:]
	return r, true, api.OK
}

func (m *model) query(q api.Query) (api.Page, api.Errno) {
	rows, err := m.rows(q)
	if err != api.OK {
		return api.Page{}, err
	}
	return query.Run(m.s, q, m.clock, &list{rows})
}

func (m *model) stat() api.MachineStat {
	return api.MachineStat{Applied: m.applied, Clock: m.clock, Low: m.low, Sessions: m.sessions}
}

// stateBytes: 15.1.
func stateBytes(l ...api.Session) []byte {
	body := []byte{0x53}
	body = append(body, wire.Uint(uint64(len(l)))...)
	for _, x := range l {
		for _, n := range []int{x.Client, x.Serial, x.Seen} {
			body = append(body, wire.Uint(uint64(n))...)
		}
		body = append(body, wire.Bytes(x.Reply)...)
	}
	b, _ := wire.Frame(body)
	return b
}

func (m *model) digest() uint32 {
	visible, _ := retain.Vis(m.s, m.clock, m.entries...)
	var all []byte
	for _, e := range visible {
		b, _ := cell.Pack(e)
		all = append(all, b...)
	}
	return wire.Sum(all)
}

// picture: as a machine's must be.
func (m *model) picture() picture {
	page, _ := m.query(everything)
	return picture{m.stat(), stateBytes(m.sessions...), m.digest(), page}
}
