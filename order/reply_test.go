package order_test

import (
	"bytes"
	"math"
	"math/rand"
	"slices"
	"testing"

	"strata/api"
	"strata/order"
)

// shown is a reply with these rows.
func shown(rows ...api.Row) api.Reply { return api.Reply{Page: api.Page{Rows: rows}} }

// cells is a reply with one row of these cells.
func cells(l ...api.Cell) api.Reply { return shown(api.Row{Row: []byte("r"), Cells: l}) }

// token is a reply with a token of so many bytes.
func token(n int) api.Reply { return api.Reply{Page: api.Page{Token: make([]byte, n)}} }

// 14.6, 14.7: the chapter's example, and each field by itself, as bytes and back.
func TestBytesOfReplies(t *testing.T) {
	for i, x := range []struct {
		r    api.Reply
		want string
	}{
		{api.Reply{}, "00 00 00 00 00 00"}, {api.Reply{Err: 155}, "9b01 00 00 00 00 00"}, {api.Reply{Err: 999}, "e707 00 00 00 00 00"}, {api.Reply{Held: true}, "00 01 00 00 00 00"}, {api.Reply{Value: 300}, "00 00 ac02 00 00 00"}, {api.Reply{Value: math.MaxInt}, "00 00 ffffffffffffffff7f 00 00 00"},
		{api.Reply{Page: api.Page{Token: []byte("ab")}}, "00 00 00 00 026162 00"}, {api.Reply{Page: api.Page{Done: true}}, "00 00 00 00 00 01"},
		{shown(api.Row{Row: []byte("r")}), "00 00 00 01 0172 00 00 00"}, {cells(api.Cell{Ts: 1}), "00 00 00 01 0172 01  00 00 01 00  00 00"}, {cells(api.Cell{Fam: 7, Qual: []byte("q"), Ts: 1 << 40, Value: []byte("vw")}), "00 00 00 01 0172 01  07 0171 808080808020 027677  00 00"},
		// rows need not come in order, nor cells
		{shown(api.Row{Row: []byte("s"), Cells: []api.Cell{{Fam: 1, Ts: 5}, {Ts: 6}}}, api.Row{Row: []byte("r")}, api.Row{Row: []byte("s")}), "00 00 00 03  0173 02 01000500 00000600  0172 00  0173 00  00 00"},
	} {
		b := unhex(t, x.want)
		if got, err := order.EncodeReply(x.r); err != api.OK || !bytes.Equal(got, b) {
			t.Errorf("line %d: %x, %d, want %x", i, got, err, b)
		}
		if r, err := order.DecodeReply(b); err != api.OK || !same(r, x.r) {
			t.Errorf("line %d: %+v, %d, want %+v", i, r, err, x.r)
		}
	}
}

// 14.5, 14.6: each field at its bounds.
func TestWhichReplies(t *testing.T) {
	rows := func(n int) api.Reply { return shown(repeat(api.Row{Row: []byte("r")}, n)...) }
	named := func(n int) api.Reply { return shown(api.Row{Row: text(n)}) }
	for i, x := range []struct {
		r    api.Reply
		want api.Errno
	}{
		{api.Reply{Err: 1000}, api.ErrReply}, {api.Reply{Err: 999}, api.OK}, {api.Reply{Err: -1}, api.ErrReply}, {api.Reply{Err: math.MaxInt}, api.ErrReply}, {api.Reply{Err: math.MinInt}, api.ErrReply},
		{api.Reply{Value: -1}, api.ErrReply}, {api.Reply{Value: math.MinInt}, api.ErrReply}, {api.Reply{Value: math.MaxInt}, api.OK},
		{rows(1000), api.OK}, {rows(1001), api.ErrReply}, {named(0), api.ErrReply}, {named(1), api.OK}, {named(256), api.OK}, {named(257), api.ErrReply},
		{shown(api.Row{Row: []byte("r")}, api.Row{}), api.ErrReply}, {shown(api.Row{}, api.Row{Row: []byte("r")}), api.ErrReply},
		{cells(api.Cell{Ts: 1}), api.OK}, {cells(api.Cell{Ts: 0}), api.ErrReply}, {cells(api.Cell{Ts: -1}), api.ErrReply}, {cells(api.Cell{Ts: 1 << 40}), api.OK}, {cells(api.Cell{Ts: 1<<40 + 1}), api.ErrReply}, {cells(api.Cell{Ts: math.MinInt}), api.ErrReply},
		{cells(api.Cell{Ts: 1, Fam: 7}), api.OK}, {cells(api.Cell{Ts: 1, Fam: 8}), api.ErrReply}, {cells(api.Cell{Ts: 1, Fam: -1}), api.ErrReply}, {cells(api.Cell{Ts: 1, Fam: 256}), api.ErrReply},
		{cells(api.Cell{Ts: 1, Qual: text(256)}), api.OK}, {cells(api.Cell{Ts: 1, Qual: text(257)}), api.ErrReply}, {cells(api.Cell{Ts: 1, Value: text(4096)}), api.OK}, {cells(api.Cell{Ts: 1, Value: text(4097)}), api.ErrReply},
		{cells(api.Cell{Ts: 1}, api.Cell{}), api.ErrReply}, {cells(api.Cell{}, api.Cell{Ts: 1}), api.ErrReply}, {cells(repeat(api.Cell{Ts: 1}, 2000)...), api.OK},
		{token(1), api.OK}, {token(70000), api.OK},
	} {
		b, err := order.EncodeReply(x.r)
		if err != x.want || (b == nil) != (err != api.OK) || wantReply(x.r) != (err == api.OK) {
			t.Errorf("line %d: %d bytes, %d, want %d", i, len(b), err, x.want)
			continue
		}
		if err != api.OK {
			continue
		}
		if back, err := order.DecodeReply(b); err != api.OK || !same(back, x.r) {
			t.Errorf("line %d: %d", i, err)
		}
	}
}

// 14.6, 14.7: at most MaxFrame bytes; what is no reply is told first.
func TestLengthOfReplies(t *testing.T) {
	most := 1048576
	head := len(encodeReply(t, token(most-100))) - (most - 100)
	for n, want := range map[int]api.Errno{most - 1: api.OK, most: api.OK, most + 1: api.ErrLong, most + 2: api.ErrLong, 2*most - 100: api.ErrLong} {
		r := token(n - head)
		whole := wantReplyBytes(r)
		b, err := order.EncodeReply(r)
		if len(whole) != n || err != want || err == api.OK && !bytes.Equal(b, whole) || err != api.OK && b != nil {
			t.Errorf("%d bytes: %d, %d", n, len(b), err)
		}
		back, err := order.DecodeReply(whole)
		if err != want || err == api.OK && !same(back, r) || err != api.OK && !same(back, api.Reply{}) {
			t.Errorf("Decode of %d bytes: %d", n, err)
		}
		bad := r
		bad.Value = -1
		_, err = order.EncodeReply(bad)
		mustErr(t, "no reply", err, api.ErrReply)
	}
	_, err := order.DecodeReply(make([]byte, most+1))
	mustErr(t, "too many bytes that are no reply", err, api.ErrLong)
	_, err = order.DecodeReply(make([]byte, most))
	mustErr(t, "MaxFrame bytes that are no reply", err, api.ErrReply)
}

// 14.6, 14.11: what is far too long is told in no time and no room; and what is no reply first.
func TestFarTooLong(t *testing.T) {
	l := repeat(api.Cell{Qual: text(256), Ts: 1, Value: text(4096)}, 4000)
	rows := repeat(api.Row{Row: text(256), Cells: l}, 1000)
	_, err := order.EncodeReply(shown(rows...))
	mustErr(t, "sixteen gigabytes", err, api.ErrLong)
	if n := testing.AllocsPerRun(1, func() { order.EncodeReply(shown(rows...)) }); n > 100000 {
		t.Errorf("it went on writing: memory was taken %v times", n)
	}
	rows[999] = api.Row{Row: text(256), Cells: append(slices.Clip(l), api.Cell{})}
	_, err = order.EncodeReply(shown(rows...))
	mustErr(t, "its last cell is none", err, api.ErrReply)
	r := shown(rows[:999]...)
	r.Page.Token = make([]byte, 1<<24)
	_, err = order.EncodeReply(r)
	mustErr(t, "a token behind", err, api.ErrLong)
}

// 14.7: bytes that are no reply's.
func TestDecodeReplyRefuses(t *testing.T) {
	for i, text := range []string{
		"00 02 00 00 00 00", // the chapter's
		"", "00", "00 00 00 00 00", "00 00 00 00 00 00 00", "00 00 00 00 00 02", "00 ff 00 00 00 00", "00 00 00 00 00 80",
		"e807 00 00 00 00 00", "8000 00 00 00 00 00", "ffffffffffffffffff01 00 00 00 00 00", "ffffffffffffffffff02 00 00 00 00 00", // Err
		"00 00 80808080808080808001 00 00 00", "00 00 ffffffffffffffffff01 00 00 00", "00 00 8100 00 00 00", // Value
		"00 00 00 01 00 00", "00 00 00 01 00 00 00 00", "00 00 00 02 0172 00 00 00", "00 00 00 8100 0172 00 00 00", "00 00 00 01 810072 00 00 00", "00 00 00 01 0172 8000 00 00", // rows
		"00 00 00 ffffffffffffffff7f 0172 00 00 00", "00 00 00 ffffffffffffffffff01 0172 00 00 00", "00 00 00 01 0172 ffffffffffffffff7f 00 00 01 00 00 00", "00 00 00 01 ffffffffffffffff7f 72 00 00 00",
		"00 00 00 01 0172 01  00 00 00 00  00 00", "00 00 00 01 0172 01  08 00 01 00  00 00", "00 00 00 01 0172 01  00 00 818080808020 00  00 00", "00 00 00 01 0172 01  00 8000 01 00  00 00", "00 00 00 01 0172 01  00 00 8100 00  00 00", "00 00 00 01 0172 01  00 00 01 8000  00 00", "00 00 00 01 0172 02  00 00 01 00  00 00", "00 00 00 01 0172 00  00 00 01 00  00 00", // cells
		"00 00 00 00 8000 00", "00 00 00 00 02 61 00", "00 00 00 00 ffffffffffffffff7f 61 00", // Token
	} {
		b := unhex(t, text)
		if r, err := order.DecodeReply(b); err != api.ErrReply || !same(r, api.Reply{}) {
			t.Errorf("line %d: %x: %+v, %d", i, b, r, err)
		}
		if want, err := wantDecodeReply(b); err != api.ErrReply {
			t.Errorf("line %d: it is one: %+v", i, want)
		}
	}
	for i, r := range []api.Reply{
		shown(repeat(api.Row{Row: []byte("r")}, 1001)...), shown(api.Row{Row: text(257)}), cells(api.Cell{Ts: 1, Qual: text(257)}), cells(api.Cell{Ts: 1, Value: text(4097)}),
	} {
		_, err := order.DecodeReply(wantReplyBytes(r))
		if err != api.ErrReply {
			t.Errorf("reply %d: %d", i, err)
		}
	}
}

// spoilReply changes one thing of a reply; it may still be one.
func spoilReply(r *rand.Rand, x *api.Reply) {
	wild := wilds[r.Intn(len(wilds))]
	long := text([]int{0, 1, 256, 257, 4096, 4097}[r.Intn(6)])
	rows := slices.Clone(x.Page.Rows)
	if len(rows) == 0 {
		rows = []api.Row{{Row: []byte("r")}}
	}
	row := &rows[r.Intn(len(rows))]
	row.Cells = append(slices.Clone(row.Cells), api.Cell{Ts: 1})
	c := &row.Cells[r.Intn(len(row.Cells))]
	x.Page.Rows = rows
	switch r.Intn(9) {
	case 0:
		x.Err = api.Errno([]int{-1, 0, 999, 1000, wild}[r.Intn(5)])
	case 1:
		x.Value = wild
	case 2:
		x.Held, x.Page.Done = !x.Held, r.Intn(2) == 0
	case 3:
		row.Row = long
	case 4:
		c.Fam = wild
	case 5:
		c.Ts = wild
	case 6:
		c.Qual = long
	case 7:
		c.Value = long
	case 8:
		x.Page.Token = long
	}
}

// 14.5, 14.6, 14.7, 14.9: drawn replies, whole and spoilt, are written, refused and read as the chapter's words say, told a second time.
func TestRepliesDrawn(t *testing.T) {
	r := rand.New(rand.NewSource(145))
	met := map[api.Errno]int{}
	for range 20000 {
		x := drawReply(r)
		for range r.Intn(3) {
			spoilReply(r, &x)
		}
		b, err := order.EncodeReply(x)
		met[err]++
		if !wantReply(x) {
			if err != api.ErrReply || b != nil {
				t.Fatalf("%x, %d: %+v", b, err, x)
			}
			continue
		}
		if err != api.OK || !bytes.Equal(b, wantReplyBytes(x)) {
			t.Fatalf("%x, %d: %+v", b, err, x)
		}
		if back, err := order.DecodeReply(b); err != api.OK || !same(back, x) {
			t.Fatalf("%+v, %d, want %+v", back, err, x)
		}
		y := x
		spoilReply(r, &y)
		if other, err := order.EncodeReply(y); err == api.OK && bytes.Equal(b, other) != same(x, y) {
			t.Fatalf("%x of %+v, %x of %+v", b, x, other, y)
		}
	}
	if met[api.OK] < 5000 || met[api.ErrReply] < 2000 {
		t.Errorf("%v", met)
	}
}

// 14.7, 14.9: bytes of replies, spoilt a little.
func TestDecodeReplyDrawn(t *testing.T) {
	r := rand.New(rand.NewSource(147))
	met := map[api.Errno]int{}
	for range 30000 {
		b := encodeReply(t, drawReply(r))
		for range 1 + r.Intn(2) {
			if len(b) > 0 {
				b = spoilBytes(r, b)
			}
		}
		x, err := order.DecodeReply(b)
		want, wantErr := wantDecodeReply(b)
		met[err]++
		if err != wantErr || !same(x, want) {
			t.Fatalf("%x: %+v, %d, want %+v, %d", b, x, err, want, wantErr)
		}
		if err == api.OK && !bytes.Equal(encodeReply(t, x), b) {
			t.Fatalf("%x was read, but is not what is written", b)
		}
	}
	if met[api.OK] < 2000 || met[api.ErrReply] < 5000 {
		t.Errorf("%v", met)
	}
}

// 14.10: a reply's bytes that are cut off anywhere are none, nor are they with anything behind.
func TestRepliesStandAlone(t *testing.T) {
	r := rand.New(rand.NewSource(1410))
	for range 300 {
		b := encodeReply(t, drawReply(r))
		step := 1 + len(b)/200
		for n := 0; n < len(b); n += 1 + r.Intn(step) {
			_, err := order.DecodeReply(b[:n])
			mustErr(t, "a beginning", err, api.ErrReply)
		}
		for last := range 256 {
			_, err := order.DecodeReply(append(slices.Clip(b), byte(last)))
			mustErr(t, "with a byte behind", err, api.ErrReply)
		}
		_, err := order.DecodeReply(append(slices.Clip(b), b...))
		mustErr(t, "twice", err, api.ErrReply)
	}
}
