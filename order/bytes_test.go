package order_test

import (
	"bytes"
	"math/rand"
	"slices"
	"testing"

	"strata/api"
	"strata/order"
)

// 14.3, 14.4: the chapter's examples, and each field by itself, as bytes and back.
func TestBytesOfCommands(t *testing.T) {
	q, v := []byte("q"), []byte("v")
	for i, x := range []struct {
		c    api.Command
		want string
	}{
		{of(api.MNoop), "01"}, {of(api.MOpen), "02"},
		{of(api.MClose, sender(5, 300)), "03 05 ac02"}, {of(api.MClose, sender(1<<40, 1)), "03 808080808020 01"},
		{of(api.MTick, amount(7)), "05 00 00 07"}, {of(api.MTick, sender(1, 2), amount(1<<40)), "05 01 02 808080808020"}, {of(api.MAdvance), "06 00 00 00"}, {of(api.MAdvance, sender(300, 1), amount(128)), "06 ac02 01 8001"},
		{withOp(api.Op{Kind: api.OPut, Qual: q, Value: v}), "04 00 00 0172 00 01  01 00 0171 00 0176 0000000000000000"},
		{withOp(api.Op{Kind: api.OAdd, Qual: q, Delta: -1}), "04 00 00 0172 00 01  05 00 0171 00 00 ffffffffffffffff"},
		{withOp(api.Op{Kind: api.OAdd, Fam: 1, Delta: 0x0123456789abcdef}), "04 00 00 0172 00 01  05 01 00 00 00 0123456789abcdef"},
		{withOp(api.Op{Kind: api.OAdd, Delta: -1 << 63}), "04 00 00 0172 00 01  05 00 00 00 00 8000000000000000"},
		{withOp(api.Op{Kind: api.OFam, Fam: 1, Ts: 300}), "04 00 00 0172 00 01  04 01 00 ac02 00 0000000000000000"},
		{of(api.MMutate, sender(5, 6), ops(api.Op{Kind: api.OCell, Qual: q}, api.Op{Kind: api.OCol, Fam: 1, Ts: 9})), "04 05 06 0172 00 02  02 00 0171 00 00 0000000000000000  03 01 00 09 00 0000000000000000"},
		{withCond(api.Cond{Kind: api.CSame, Fam: 1, Qual: q, Value: v}), "04 00 00 0172 01  03 01 0171 0176  01  01 00 00 00 00 0000000000000000"},
		{of(api.MMutate, conds(api.Cond{Kind: api.CThere}, api.Cond{Kind: api.CAbove, Value: q})), "04 00 00 0172 02  01 00 00 00  06 00 00 0171  01  01 00 00 00 00 0000000000000000"},
		{of(api.MRead), "07 00 00 00 00 00 00 00 01 01 00 00 00"},
		{of(api.MRead, sender(3, 4), asks(api.Query{From: []byte("a"), To: []byte("bc"), Fams: []int{0, 1}, Prefix: q, Time: 300, N: 2, Rows: 1000, Reverse: true, Where: "ts=1"})), "07 03 04 0161 026263 02 00 01 0171 ac02 02 e807 01 0474733d31 00"},
	} {
		b := unhex(t, x.want)
		if got, err := order.Encode(two, x.c); err != api.OK || !bytes.Equal(got, b) {
			t.Errorf("line %d: %x, %d, want %x", i, got, err, b)
		}
		if c, err := order.Decode(two, b); err != api.OK || !same(c, x.c) {
			t.Errorf("line %d: %+v, %d, want %+v", i, c, err, x.c)
		}
	}
	asked := api.Query{From: []byte("a"), N: 1, Rows: 1}
	asked.Token = tokenOf(asked, 9, []byte("b"))
	b := encode(t, one, of(api.MRead, asks(asked)))
	if !bytes.HasSuffix(b, append([]byte{byte(len(asked.Token))}, asked.Token...)) {
		t.Errorf("%x does not end with the token %x", b, asked.Token)
	}
}

// 14.4: bytes that are no command's.
func TestDecodeRefuses(t *testing.T) {
	for i, text := range []string{
		"", "0100", "05000000", "030500", // the chapter's
		"00", "08", "ff", "0200", "0101", // no kind, or more than it has
		"03", "0305", "0300", "030001", "03050600", "0380", // a sender that is cut off, is none, or has something behind
		"03 808080808020", "03 818080808020 01", "03 01 818080808020", // one above its bound
		"03 8500 01", "03 05 8100", "05 00 8000 01", "05 8000 00 01", "05 00 00 8700", // a number not as it is written
		"03 ffffffffffffffffff01 01", "03 ffffffffffffffffff02 01", "03 80808080808080808001 01", "03 ffffffffffffffff7f 01", // one that is no int, or none at all
		"05 01 00 01", "05 00 01 01", // a serial without a client
		"05 00 00", "05 00 00 818080808020", "06 00 00 ffffffffffffffffff01", "06 00 00 00 00",
		"04 00 00 00 00 01  01 00 00 00 00 0000000000000000",     // no row
		"04 00 00 0172 00 00",                                    // no op
		"04 00 00 0172 00 01  06 00 00 00 00 0000000000000000",   // no kind of an op
		"04 00 00 0172 00 01  00 00 00 00 00 0000000000000000",   //
		"04 00 00 0172 00 01  01 02 00 00 00 0000000000000000",   // a family that is not there
		"04 00 00 0172 00 01  01 00 00 00 00 0000000000000001",   // a Delta of a put
		"04 00 00 0172 00 01  05 00 00 01 00 0000000000000001",   // a Ts of an add
		"04 00 00 0172 00 01  04 00 0171 00 00 0000000000000000", // a qualifier of a family's
		"04 00 00 0172 00 01  02 00 00 00 0176 0000000000000000", // a value of a tombstone
		"04 00 00 0172 00 01  01 00 00 00 00 00000000000000",     // cut off
		"04 00 00 0172 00 01  01 00 00 00 00 000000000000000000", // too many
		"04 00 00 0172 00 02  01 00 00 00 00 0000000000000000",   // fewer than it says
		"04 00 00 0172 00 8100 01 00 00 00 00 0000000000000000",
		"04 00 00 0172 8000 01  01 00 00 00 00 0000000000000000",
		"04 00 00 810072 00 01  01 00 00 00 00 0000000000000000",
		"04 00 00 0172 01  00 00 00 00  01  01 00 00 00 00 0000000000000000",   // no kind of a condition
		"04 00 00 0172 01  07 00 00 00  01  01 00 00 00 00 0000000000000000",   //
		"04 00 00 0172 01  01 02 00 00  01  01 00 00 00 00 0000000000000000",   // a family that is not there
		"04 00 00 0172 01  01 00 00 0176  01  01 00 00 00 00 0000000000000000", // a value that may not be
		"04 00 00 0172 ffffffffffffffff7f 01 00 00 00",                         // as many as there are numbers
		"04 00 00 0172 00 ffffffffffffffff7f 01 00 00 00 00 0000000000000000",
		"04 00 00 0172 00 ffffffffffffffffff01 01 00 00 00 00 0000000000000000",
		"04 00 00 ffffffffffffffff7f 72 00 01  01 00 00 00 00 0000000000000000",
		"07 00 00 00 00 00 00 00 01 01 02 00 00",                   // neither backward nor forward
		"07 00 00 00 00 00 00 00 01 01 ff 00 00",                   //
		"07 00 00 00 00 00 00 00 00 01 00 00 00",                   // N
		"07 00 00 00 00 00 00 00 01 00 00 00 00",                   // Rows
		"07 00 00 00 00 00 00 00 01 e907 00 00 00",                 //
		"07 00 00 00 00 01 02 00 00 01 01 00 00 00",                // Fams
		"07 00 00 00 00 02 01 00 00 00 01 01 00 00 00",             //
		"07 00 00 00 00 ffffffffffffffff7f 00 00 00 01",            //
		"07 00 00 0162 0161 00 00 00 01 01 00 00 00",               // To ahead of From
		"07 00 00 00 00 00 00 00 01 01 00 0120 00",                 // Where
		"07 00 00 00 00 00 00 00 01 01 00 00 0101",                 // Token
		"07 00 00 00 00 00 00 ffffffffffffffffff01 01 01 00 00 00", // Time
		"07 00 00 00 00 00 00 00 01 01 00 00", "07 00 00 00 00 00 00 00 01 01 00 00 00 00",
	} {
		b := unhex(t, text)
		if c, err := order.Decode(two, b); err != api.ErrCommand || !same(c, api.Command{}) {
			t.Errorf("line %d: %x: %+v, %d", i, b, c, err)
		}
		if want, err := wantDecode(two, b); err != api.ErrCommand {
			t.Errorf("line %d: it is one: %+v", i, want)
		}
		_, err := order.Decode(api.Schema{}, b)
		mustErr(t, "without a schema", err, api.ErrSchema)
	}
}

// 14.4: what is a command hangs on the schema.
func TestDecodeBySchema(t *testing.T) {
	for _, c := range []api.Command{
		withOp(api.Op{Kind: api.OPut, Fam: 1}), withCond(api.Cond{Kind: api.CThere, Fam: 1}),
		of(api.MRead, asks(api.Query{N: 1, Rows: 1, Fams: []int{1}})), of(api.MRead, asks(api.Query{N: 1, Rows: 1, Where: "fam = b"})),
	} {
		b := encode(t, two, c)
		if back, err := order.Decode(two, b); err != api.OK || !same(back, c) {
			t.Errorf("%+v, %d, want %+v", back, err, c)
		}
		if back, err := order.Decode(one, b); err != api.ErrCommand || !same(back, api.Command{}) {
			t.Errorf("%+v, %d", back, err)
		}
	}
}

// spoilBytes changes bytes a little.
func spoilBytes(r *rand.Rand, b []byte) []byte {
	b = bytes.Clone(b)
	at := r.Intn(len(b) + 1)
	if r.Intn(2) == 0 {
		at = min(at, r.Intn(24))
	}
	switch r.Intn(5) {
	case 0:
		return b[:at]
	case 1:
		return slices.Insert(b, at, byte(r.Intn(256)))
	case 2:
		return slices.Delete(b, min(at, len(b)-1), min(at, len(b)-1)+1)
	case 3:
		b[min(at, len(b)-1)] = byte([]int{0, 1, 2, 7, 8, 127, 128, 129, 255}[r.Intn(9)])
		return b
	}
	b[min(at, len(b)-1)] ^= 1 << r.Intn(8)
	return b
}

// 14.4, 14.9: bytes of commands, spoilt a little, are read as the chapter's words say, told a second time.
func TestDecodeDrawn(t *testing.T) {
	r := rand.New(rand.NewSource(144))
	met := map[api.Errno]int{}
	for range 40000 {
		s := []api.Schema{one, two, eight}[r.Intn(3)]
		b := encode(t, s, drawCommand(r, s))
		for range r.Intn(3) {
			if len(b) > 0 {
				b = spoilBytes(r, b)
			}
		}
		c, err := order.Decode(s, b)
		want, wantErr := wantDecode(s, b)
		met[err]++
		if err != wantErr || !same(c, want) {
			t.Fatalf("%x: %+v, %d, want %+v, %d", b, c, err, want, wantErr)
		}
		if err != api.OK {
			continue
		}
		if back := encode(t, s, c); !bytes.Equal(back, b) {
			t.Fatalf("%x was read, but %x is written", b, back)
		}
	}
	if met[api.OK] < 10000 || met[api.ErrCommand] < 10000 {
		t.Errorf("%v", met)
	}
}

// 14.9: what is written is read back; unlike commands have unlike bytes.
func TestCommandsThereAndBack(t *testing.T) {
	r := rand.New(rand.NewSource(149))
	for range 10000 {
		s := []api.Schema{one, two, eight}[r.Intn(3)]
		a := drawCommand(r, s)
		x := encode(t, s, a)
		if back, err := order.Decode(s, x); err != api.OK || !same(back, a) || !order.Same(back, a) {
			t.Fatalf("%+v, %d, want %+v", back, err, a)
		}
		b := a
		spoil(r, &b)
		y, err := order.Encode(s, b)
		if err == api.OK && bytes.Equal(x, y) != same(a, b) {
			t.Fatalf("%x of %+v, %x of %+v", x, a, y, b)
		}
	}
}

// 14.10: a command's bytes that are cut off anywhere are none, nor are they with anything behind.
func TestCommandsStandAlone(t *testing.T) {
	r := rand.New(rand.NewSource(1410))
	for range 300 {
		s := []api.Schema{one, two, eight}[r.Intn(3)]
		b := encode(t, s, drawCommand(r, s))
		step := 1 + len(b)/200
		for n := 0; n < len(b); n += 1 + r.Intn(step) {
			_, err := order.Decode(s, b[:n])
			mustErr(t, "a beginning", err, api.ErrCommand)
		}
		for last := range 256 {
			_, err := order.Decode(s, append(slices.Clip(b), byte(last)))
			mustErr(t, "with a byte behind", err, api.ErrCommand)
		}
		_, err := order.Decode(s, append(slices.Clip(b), b[:min(len(b), 40000)]...))
		mustErr(t, "twice", err, api.ErrCommand)
	}
}
