package order_test

import (
	"bytes"
	"cmp"
	"encoding/binary"
	"encoding/hex"
	"math"
	"math/rand"
	"reflect"
	"slices"
	"strings"
	"testing"

	"strata/api"
	"strata/cell"
	"strata/order"
	"strata/query"
	"strata/wire"
)

var one = api.Schema{Fams: []api.Family{{Name: "f", Max: 1}}}
var two = api.Schema{Fams: []api.Family{{Name: "a", Max: 3}, {Name: "b", Max: 16, TTL: 9}}}
var eight = api.Schema{Fams: []api.Family{{Name: "a", Max: 1}, {Name: "b", Max: 1}, {Name: "c", Max: 1}, {Name: "d", Max: 1}, {Name: "e", Max: 1}, {Name: "f", Max: 1}, {Name: "g", Max: 1}, {Name: "h", Max: 1}}}

func mustErr(t *testing.T, what string, got, want api.Errno) {
	t.Helper()
	if got != want {
		t.Fatalf("%s: %d, want %d", what, got, want)
	}
}

// unhex reads bytes in hexadecimal, with blanks wherever they stand.
func unhex(t *testing.T, text string) []byte {
	t.Helper()
	b, err := hex.DecodeString(strings.ReplaceAll(text, " ", ""))
	if err != nil {
		t.Fatal(err)
	}
	return b
}

func text(n int) []byte { return bytes.Repeat([]byte("x"), n) }

func encode(t *testing.T, s api.Schema, c api.Command) []byte {
	t.Helper()
	b, err := order.Encode(s, c)
	mustErr(t, "Encode", err, api.OK)
	return b
}

func encodeReply(t *testing.T, r api.Reply) []byte {
	t.Helper()
	b, err := order.EncodeReply(r)
	mustErr(t, "EncodeReply", err, api.OK)
	return b
}

// plain is a value of plain data with nil for every empty list, so that reflect tells sameness as 14.8 does.
func plain[T any](v T) T {
	out := reflect.New(reflect.TypeOf(v)).Elem()
	copyPlain(out, reflect.ValueOf(v))
	return out.Interface().(T)
}

func copyPlain(to, from reflect.Value) {
	switch from.Kind() {
	case reflect.Struct:
		for i := range from.NumField() {
			copyPlain(to.Field(i), from.Field(i))
		}
	case reflect.Slice:
		if from.Len() > 0 {
			to.Set(reflect.MakeSlice(from.Type(), from.Len(), from.Len()))
		}
		for i := range from.Len() {
			copyPlain(to.Index(i), from.Index(i))
		}
	default:
		to.Set(from)
	}
}

// same is 14.8 by reflection, also of replies.
func same[T any](a, b T) bool { return reflect.DeepEqual(plain(a), plain(b)) }

// wantCheck is 14.2 once more.
func wantCheck(s api.Schema, c api.Command) api.Errno {
	most := 1 << 40
	out := func(n, least, most int) bool { return n < least || n > most }
	mutates := c.Kind == api.MMutate
	switch {
	case cell.CheckSchema(s) != api.OK:
		return api.ErrSchema
	case out(c.Kind, 1, 7):
		return api.ErrCommandKind
	case c.Kind < 3 && c.Client != 0, c.Kind == 3 && out(c.Client, 1, most), out(c.Client, 0, most):
		return api.ErrClient
	case c.Client == 0 && c.Serial != 0, c.Client != 0 && out(c.Serial, 1, most):
		return api.ErrNoSerial
	case mutates && out(len(c.Row), 1, 256), !mutates && len(c.Row) > 0:
		return api.ErrRow
	case mutates && len(c.Conds) > 8, !mutates && len(c.Conds) > 0, slices.ContainsFunc(c.Conds, func(x api.Cond) bool { return !wantCond(s, x) }):
		return api.ErrCond
	case mutates && out(len(c.Ops), 1, 16), !mutates && len(c.Ops) > 0:
		return api.ErrOps
	case slices.ContainsFunc(c.Ops, func(o api.Op) bool { return !wantOp(s, o) }):
		return api.ErrOp
	case c.Kind == api.MTick && out(c.N, 1, most), c.Kind == api.MAdvance && out(c.N, 0, most), c.Kind != api.MTick && c.Kind != api.MAdvance && c.N != 0:
		return api.ErrAmount
	case c.Kind == api.MRead:
		return query.Check(s, c.Query)
	case !same(c.Query, api.Query{}):
		return api.ErrQuery
	case len(wantBytes(c)) > 98304:
		return api.ErrLong
	}
	return api.OK
}

func wantCond(s api.Schema, c api.Cond) bool {
	if c.Fam < 0 || c.Fam >= len(s.Fams) || len(c.Qual) > 256 {
		return false
	}
	switch c.Kind {
	case api.CThere, api.CAbsent:
		return len(c.Value) == 0
	case api.CSame, api.COther, api.CBelow, api.CAbove:
		return len(c.Value) <= 4096
	}
	return false
}

func wantOp(s api.Schema, o api.Op) bool {
	if o.Fam < 0 || o.Fam >= len(s.Fams) || len(o.Qual) > 256 || o.Ts < 0 || o.Ts > 1<<40 || len(o.Value) > 4096 {
		return false
	}
	switch o.Kind {
	case api.OPut:
		return o.Delta == 0
	case api.OCell, api.OCol:
		return o.Delta == 0 && len(o.Value) == 0
	case api.OFam:
		return o.Delta == 0 && len(o.Value) == 0 && len(o.Qual) == 0
	case api.OAdd:
		return o.Ts == 0 && len(o.Value) == 0
	}
	return false
}

func uints(b []byte, numbers ...int) []byte {
	for _, n := range numbers {
		b = binary.AppendUvarint(b, uint64(n))
	}
	return b
}

func texts(b []byte, strings ...[]byte) []byte {
	for _, x := range strings {
		b = append(uints(b, len(x)), x...)
	}
	return b
}

func flags(b []byte, is bool) []byte {
	if is {
		return append(b, 1)
	}
	return append(b, 0)
}

// wantBytes is 14.3 once more, of a command that 14.1 lets be.
func wantBytes(c api.Command) []byte {
	b := []byte{byte(c.Kind)}
	if c.Kind <= api.MOpen {
		return b
	}
	b = uints(b, c.Client, c.Serial)
	switch c.Kind {
	case api.MMutate:
		b = uints(texts(b, c.Row), len(c.Conds))
		for _, x := range c.Conds {
			b = texts(append(b, byte(x.Kind), byte(x.Fam)), x.Qual, x.Value)
		}
		b = uints(b, len(c.Ops))
		for _, o := range c.Ops {
			b = uints(texts(append(b, byte(o.Kind), byte(o.Fam)), o.Qual), o.Ts)
			b = binary.BigEndian.AppendUint64(texts(b, o.Value), uint64(o.Delta))
		}
	case api.MTick, api.MAdvance:
		b = uints(b, c.N)
	case api.MRead:
		q := c.Query
		b = uints(texts(b, q.From, q.To), len(q.Fams))
		b = flags(uints(texts(uints(b, q.Fams...), q.Prefix), q.Time, q.N, q.Rows), q.Reverse)
		b = texts(b, []byte(q.Where), q.Token)
	}
	return b
}

// wantReply is 14.5 once more.
func wantReply(r api.Reply) bool {
	bad := r.Err < 0 || r.Err >= 1000 || r.Value < 0 || len(r.Page.Rows) > 1000
	for _, row := range r.Page.Rows {
		bad = bad || len(row.Row) == 0 || len(row.Row) > 256
		for _, c := range row.Cells {
			bad = bad || c.Fam < 0 || c.Fam > 7 || len(c.Qual) > 256 || c.Ts < 1 || c.Ts > 1<<40 || len(c.Value) > 4096
		}
	}
	return !bad
}

// wantReplyBytes is 14.6 once more, of a reply that 14.5 lets be.
func wantReplyBytes(r api.Reply) []byte {
	b := uints(flags(uints(nil, int(r.Err)), r.Held), r.Value, len(r.Page.Rows))
	for _, row := range r.Page.Rows {
		b = uints(texts(b, row.Row), len(row.Cells))
		for _, c := range row.Cells {
			b = texts(uints(texts(append(b, byte(c.Fam)), c.Qual), c.Ts), c.Value)
		}
	}
	return flags(texts(b, r.Page.Token), r.Page.Done)
}

// sloppy reads as it comes: what it should refuse it reads as something, which is then not written as it was.
type sloppy struct{ b []byte }

func (s *sloppy) one() int {
	if len(s.b) == 0 {
		return 0
	}
	n := s.b[0]
	s.b = s.b[1:]
	return int(n)
}

func (s *sloppy) uint() int {
	n, size := binary.Uvarint(s.b)
	if size <= 0 {
		size = len(s.b)
	}
	s.b = s.b[size:]
	return int(n)
}

func (s *sloppy) text() []byte {
	n := s.uint()
	n = max(min(n, len(s.b)), 0)
	out := s.b[:n]
	s.b = s.b[n:]
	return out
}

func (s *sloppy) word() int {
	n := 0
	for range 8 {
		n = n*256 + s.one()
	}
	return n
}

// times is how often to read, as long as there is anything.
func (s *sloppy) times(n int, read func()) {
	for i := 0; i < n && len(s.b) > 0; i++ {
		read()
	}
}

// wantDecode is 14.4 once more: bytes are a command's if they are those of the command that may be read there.
func wantDecode(s api.Schema, b []byte) (api.Command, api.Errno) {
	if cell.CheckSchema(s) != api.OK {
		return api.Command{}, api.ErrSchema
	}
	if len(b) > 98304 {
		return api.Command{}, api.ErrLong
	}
	in := &sloppy{b}
	c := api.Command{Kind: in.one()}
	if c.Kind > 2 {
		c.Client, c.Serial = in.uint(), in.uint()
	}
	switch c.Kind {
	case api.MMutate:
		c.Row = in.text()
		in.times(in.uint(), func() {
			c.Conds = append(c.Conds, api.Cond{Kind: in.one(), Fam: in.one(), Qual: in.text(), Value: in.text()})
		})
		in.times(in.uint(), func() {
			c.Ops = append(c.Ops, api.Op{Kind: in.one(), Fam: in.one(), Qual: in.text(), Ts: in.uint(), Value: in.text(), Delta: in.word()})
		})
	case api.MTick, api.MAdvance:
		c.N = in.uint()
	case api.MRead:
		q := &c.Query
		q.From, q.To = in.text(), in.text()
		in.times(in.uint(), func() { q.Fams = append(q.Fams, in.uint()) })
		q.Prefix, q.Time, q.N, q.Rows, q.Reverse = in.text(), in.uint(), in.uint(), in.uint(), in.one() == 1
		q.Where, q.Token = string(in.text()), in.text()
	}
	if wantCheck(s, c) != api.OK || !bytes.Equal(wantBytes(c), b) {
		return api.Command{}, api.ErrCommand
	}
	return c, api.OK
}

// wantDecodeReply is 14.7 once more.
func wantDecodeReply(b []byte) (api.Reply, api.Errno) {
	if len(b) > 1048576 {
		return api.Reply{}, api.ErrLong
	}
	in := &sloppy{b}
	r := api.Reply{Err: api.Errno(in.uint()), Held: in.one() == 1, Value: in.uint()}
	in.times(in.uint(), func() {
		row := api.Row{Row: in.text()}
		in.times(in.uint(), func() {
			row.Cells = append(row.Cells, api.Cell{Fam: in.one(), Qual: in.text(), Ts: in.uint(), Value: in.text()})
		})
		r.Page.Rows = append(r.Page.Rows, row)
	})
	r.Page.Token, r.Page.Done = in.text(), in.one() == 1
	if !wantReply(r) || !bytes.Equal(wantReplyBytes(r), b) {
		return api.Reply{}, api.ErrReply
	}
	return r, api.OK
}

func drawText(r *rand.Rand, least, most int) []byte {
	n := least + r.Intn(4)
	switch r.Intn(40) {
	case 0:
		n = most
	case 1:
		n = most - 1
	case 2:
		n = min(most, 127+r.Intn(2))
	}
	b := make([]byte, min(n, most))
	r.Read(b)
	return b
}

func drawNumber(r *rand.Rand, least, most int) int {
	l := []int{least, least + 1, 127, 128, 16383, 16384, most - 1, most}
	n := l[r.Intn(len(l))]
	if n < least || n > most || r.Intn(3) == 0 {
		n = least + r.Intn(most-least+1)
	}
	return n
}

// drawCommand draws a command that may be.
func drawCommand(r *rand.Rand, s api.Schema) api.Command {
	c := api.Command{Kind: 1 + r.Intn(7)}
	if r.Intn(2) == 0 {
		c.Kind = api.MMutate
	}
	if c.Kind == api.MClose || c.Kind > api.MClose && r.Intn(2) == 0 {
		c.Client, c.Serial = drawNumber(r, 1, 1<<40), drawNumber(r, 1, 1<<40)
	}
	switch c.Kind {
	case api.MMutate:
		c.Row = drawText(r, 1, 256)
		for range r.Intn(9) {
			c.Conds = append(c.Conds, drawCond(r, s))
		}
		for range 1 + r.Intn(16) {
			c.Ops = append(c.Ops, drawOp(r, s))
		}
	case api.MTick:
		c.N = drawNumber(r, 1, 1<<40)
	case api.MAdvance:
		c.N = drawNumber(r, 0, 1<<40)
	case api.MRead:
		c.Query = drawQuery(r, s)
	}
	return c
}

func drawCond(r *rand.Rand, s api.Schema) api.Cond {
	c := api.Cond{Kind: 1 + r.Intn(6), Fam: r.Intn(len(s.Fams)), Qual: drawText(r, 0, 256)}
	if c.Kind >= api.CSame {
		c.Value = drawText(r, 0, 4096)
	}
	return c
}

func drawOp(r *rand.Rand, s api.Schema) api.Op {
	o := api.Op{Kind: 1 + r.Intn(5), Fam: r.Intn(len(s.Fams))}
	if o.Kind != api.OFam {
		o.Qual = drawText(r, 0, 256)
	}
	if o.Kind == api.OPut {
		o.Value = drawText(r, 0, 4096)
	}
	if o.Kind != api.OAdd {
		o.Ts = drawNumber(r, 0, 1<<40)
		return o
	}
	o.Delta = []int{0, 1, -1, 255, 256, -256, math.MaxInt, math.MinInt, int(r.Uint64())}[r.Intn(9)]
	return o
}

func drawQuery(r *rand.Rand, s api.Schema) api.Query {
	q := api.Query{N: 1 + r.Intn(16), Rows: drawNumber(r, 1, 1000), Reverse: r.Intn(2) == 0, Prefix: drawText(r, 0, 256)}
	if r.Intn(2) == 0 {
		q.From = drawText(r, 0, 255)
	}
	if r.Intn(2) == 0 {
		q.To = append(bytes.Clone(q.From), 1)
	}
	for f := range s.Fams {
		if r.Intn(3) == 0 {
			q.Fams = append(q.Fams, f)
		}
	}
	if r.Intn(2) == 0 {
		q.Time = drawNumber(r, 1, 1<<40)
	}
	q.Where = []string{"", "ts > 5", `qual^"x"or not(value="\00")`, "fam = " + s.Fams[r.Intn(len(s.Fams))].Name}[r.Intn(4)]
	if r.Intn(2) == 0 {
		q.Token = tokenOf(q, cmp.Or(q.Time, 9), append(bytes.Clone(q.From), 0))
	}
	return q
}

// tokenOf is the token of a page that ended behind a row, as 13.6 lays it out.
func tokenOf(q api.Query, time int, row []byte) []byte {
	form := uints(texts(flags(nil, q.Reverse), q.From, q.To), len(q.Fams))
	form = texts(uints(texts(uints(form, q.Fams...), q.Prefix), q.Time, q.N), []byte(q.Where))
	b, err := wire.Frame(uints(texts(uints(nil, time), row), int(wire.Sum(form))))
	if err != api.OK {
		panic(err)
	}
	return b
}

// drawReply draws a reply that may be.
func drawReply(r *rand.Rand) api.Reply {
	out := api.Reply{Err: api.Errno(drawNumber(r, 0, 999)), Held: r.Intn(2) == 0, Value: drawNumber(r, 0, math.MaxInt-1)}
	for range r.Intn(5) {
		row := api.Row{Row: drawText(r, 1, 256)}
		for range r.Intn(4) {
			row.Cells = append(row.Cells, api.Cell{Fam: r.Intn(8), Qual: drawText(r, 0, 256), Ts: drawNumber(r, 1, 1<<40), Value: drawText(r, 0, 4096)})
		}
		out.Page.Rows = append(out.Page.Rows, row)
	}
	out.Page.Token, out.Page.Done = drawText(r, 0, 5000), r.Intn(2) == 0
	return out
}
