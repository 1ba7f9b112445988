package query_test

import (
	"bytes"
	"encoding/hex"
	"math"
	"slices"
	"strings"
	"testing"

	"strata/api"
	"strata/query"
	"strata/wire"
)

// mustToken holds all that tell a token's error against one.
func mustToken(t *testing.T, what string, q api.Query, want api.Errno) {
	t.Helper()
	_, _, start := query.Start(q)
	_, at := query.At(q, 9)
	if start != want || at != want {
		t.Errorf("%s: Start %d, At %d, want %d", what, start, at, want)
	}
	if check := query.Check(two, q); check != want && check != api.ErrQuery {
		t.Errorf("%s: Check %d, want %d", what, check, want)
	}
	if _, err := query.Run(two, q, 9, &list{}); err != want && err != api.ErrQuery {
		t.Errorf("%s: Run %d, want %d", what, err, want)
	}
}

// 13.6: the bytes of a token.
func TestTokenBytes(t *testing.T) {
	for i, c := range []struct {
		q     api.Query
		clock int
		want  string
	}{
		{asked(size(2)), 9, "000000090b90d53009027232fdd5a8fc09a2ffde2b"},
		{asked(size(2), token([]byte{})), 9, "000000090b90d53009027232fdd5a8fc09a2ffde2b"},
	} {
		p, err := query.Run(two, c.q, c.clock, &list{rows: simple("r1", "r2", "r3")})
		if got := hex.EncodeToString(p.Token); got != c.want || p.Done || err != api.OK {
			t.Errorf("line %d: %s, %v, %d, want %s", i, got, p.Done, err, c.want)
		}
	}
	// all fields at once, in order; numbers below 0 by their 64 bits
	all := api.Query{Reverse: true, From: []byte("r"), To: []byte("s\x00"), Fams: []int{0, 200}, Prefix: []byte("y"), Time: 300, N: 2, Rows: 5, Where: "ts = 5"}
	all.Token, _ = hex.DecodeString("0000000aff638523ac02027232e8c0f9b20db580b015")
	if at, err := query.At(all, 9); at != 300 || err != api.OK {
		t.Errorf("%d, %d", at, err)
	}
	if start, is, err := query.Start(all); string(start) != "r2" || !is || err != api.OK {
		t.Errorf("%q, %v, %d", start, is, err)
	}
	below := api.Query{Fams: []int{-1}, N: -2}
	below.Token, _ = hex.DecodeString("000000080813bec2010172b1bff6f90eaaaaba16")
	if start, is, err := query.Start(below); string(start) != "r\x00" || !is || err != api.OK {
		t.Errorf("%q, %v, %d", start, is, err)
	}
}

// 13.6: a token that Run makes is the frame that the chapter lays out, with the time of the first page.
func TestTokensThatRunMakes(t *testing.T) {
	for _, q := range []api.Query{
		asked(), asked(backward), asked(rowsFrom("r", "s")), asked(ofFams(1)), asked(ofFams(0, 1)), asked(prefix("y")), asked(time(300)), asked(versions(16)), asked(where(" ts=5 ")), asked(where("ts = 5")),
		asked(backward, rowsFrom("r1", "r\xff"), ofFams(0, 1), prefix("x"), time(1<<40), versions(3), where(`value="\31"`)),
	} {
		at, _ := query.At(q, 77)
		p, err := query.Run(two, q, 77, &list{rows: simple("r2")})
		if !bytes.Equal(p.Token, tokenOf(q, uint64(at), "r2")) || p.Done || err != api.OK {
			t.Errorf("%+v: %x, %v, %d", q, p.Token, p.Done, err)
		}
		q.Token = p.Token
		row := "r3"
		if q.Reverse {
			row = "r1"
		}
		p, err = query.Run(two, q, 1000, &list{rows: simple(row)})
		if !bytes.Equal(p.Token, tokenOf(q, uint64(at), row)) || err != api.OK {
			t.Errorf("%+v: %x, %d", q, p.Token, err)
		}
	}
}

// 13.6: the token of another question; Rows alone may be another number.
func TestTokenOfAnotherQuestion(t *testing.T) {
	base := asked(backward, rowsFrom("a", "z"), ofFams(0), prefix("p"), versions(3), where("ts = 5"), ended(9, "r"))
	mustToken(t, "its own", base, api.OK)
	for what, change := range map[string]func(*api.Query){
		"Reverse": func(q *api.Query) { q.Reverse = false }, "From": rowsFrom("b", "z"), "no From": rowsFrom("", "z"), "To": rowsFrom("a", "y"), "no To": rowsFrom("a", ""),
		"Fams": ofFams(1), "no Fams": ofFams(), "more Fams": ofFams(0, 1), "Prefix": prefix("q"), "no Prefix": prefix(""), "N": versions(4), "Time": time(9), "Where": where("ts = 6"), "Where with a blank": where("ts = 5 "), "no Where": where(""),
	} {
		q := base
		change(&q)
		mustToken(t, what, q, api.ErrToken)
	}
	for _, n := range []int{1, 2, 500, 1000} {
		q := base
		q.Rows = n
		mustToken(t, "Rows", q, api.OK)
	}
	// what is moved from one field to the next is told
	for _, c := range [][2]api.Query{
		{asked(rowsFrom("ab", "")), asked(rowsFrom("a", "b"))}, {asked(ofFams(0, 1)), asked(ofFams(0), prefix("\x01"))}, {asked(time(1), versions(2)), asked(time(2), versions(1))}, {asked(prefix("ts=1")), asked(where("ts=1"))}, {asked(ofFams()), asked(ofFams(0))},
	} {
		c[1].Token = tokenOf(c[0], 1, "ab")
		mustToken(t, "moved", c[1], api.ErrToken)
	}
}

// 13.6: the bounds of what a token holds, told under a right sum.
func TestWhatATokenMayHold(t *testing.T) {
	long := strings.Repeat("r", 256)
	for i, c := range []struct {
		q    api.Query
		want api.Errno
	}{
		{asked(ended(1, "r")), api.OK}, {asked(ended(0, "r")), api.ErrToken}, {asked(ended(1<<40, "r")), api.OK}, {asked(ended(1<<40+1, "r")), api.ErrToken}, {asked(ended(math.MaxUint64, "r")), api.ErrToken}, {asked(ended(1<<63, "r")), api.ErrToken},
		{asked(time(5), ended(5, "r")), api.OK}, {asked(time(5), ended(4, "r")), api.ErrToken}, {asked(time(5), ended(6, "r")), api.ErrToken}, {asked(time(5), ended(0, "r")), api.ErrToken}, {asked(time(-5), ended(5, "r")), api.ErrToken}, {asked(time(-5), ended(1<<64-5, "r")), api.ErrToken}, {asked(time(1<<40+1), ended(1<<40+1, "r")), api.ErrToken},
		{asked(ended(9, "")), api.ErrToken}, {asked(ended(9, long)), api.OK}, {asked(ended(9, long+"r")), api.ErrToken}, {asked(ended(9, "\x00")), api.OK},
		{asked(rowsFrom("b", "d"), ended(9, "b")), api.OK}, {asked(rowsFrom("b", "d"), ended(9, "a")), api.ErrToken}, {asked(rowsFrom("b", "d"), ended(9, "a\xff")), api.ErrToken}, {asked(rowsFrom("b", "d"), ended(9, "c\xff")), api.OK}, {asked(rowsFrom("b", "d"), ended(9, "d")), api.ErrToken}, {asked(rowsFrom("b", "d"), ended(9, "d\x00")), api.ErrToken}, {asked(rowsFrom("b", ""), ended(9, "\xff")), api.OK}, {asked(rowsFrom("", "d"), ended(9, "\x00")), api.OK},
		{asked(backward, rowsFrom("b", "d"), ended(9, "b")), api.OK}, {asked(backward, rowsFrom("b", "d"), ended(9, "a")), api.ErrToken}, {asked(backward, rowsFrom("b", "d"), ended(9, "d")), api.ErrToken}, {asked(backward, rowsFrom("b", "d"), ended(9, "c")), api.OK},
		{asked(rowsFrom("d", "b"), ended(9, "c")), api.ErrToken},
	} {
		mustToken(t, "line "+string(rune('0'+i/10))+string(rune('0'+i%10)), c.q, c.want)
	}
}

// 13.6: bytes that are not just such a frame.
func TestBytesThatAreNoToken(t *testing.T) {
	q := asked(size(2))
	whole := tokenOf(q, 9, "r2")
	with := func(b []byte) api.Query { x := q; x.Token = b; return x }
	mustToken(t, "whole", with(whole), api.OK)
	for n := 1; n < len(whole); n++ {
		mustToken(t, "cut off", with(whole[:n]), api.ErrToken)
		mustToken(t, "cut off in front", with(whole[n:]), api.ErrToken)
	}
	for bit := range 8 * len(whole) {
		b := slices.Clone(whole)
		b[bit/8] ^= 1 << (bit % 8)
		mustToken(t, "a bit turned", with(b), api.ErrToken)
	}
	mustToken(t, "a byte behind", with(append(slices.Clone(whole), 0)), api.ErrToken)
	mustToken(t, "twice", with(slices.Concat(whole, whole)), api.ErrToken)
	sum := uint64(wire.Sum(formOf(q)))
	time, row, last := wire.Uint(9), wire.Bytes([]byte("r2")), wire.Uint(sum)
	mustToken(t, "laid out by hand", with(framed(slices.Concat(time, row, last))), api.OK)
	for what, body := range map[string][]byte{
		"nothing": nil, "a time": time, "no sum": slices.Concat(time, row), "no row": slices.Concat(time, last), "a byte behind the sum": slices.Concat(time, row, last, []byte{0}),
		"a time in two bytes": slices.Concat([]byte{0x89, 0}, row, last), "a sum in more bytes": slices.Concat(time, row, append(spread(last), 0)), "a length in two bytes": slices.Concat(time, []byte{0x82, 0, 'r', '2'}, last),
		"a greater sum": slices.Concat(time, row, wire.Uint(sum+1<<32)), "another sum": slices.Concat(time, row, wire.Uint(sum+1)), "another order": slices.Concat(row, time, last), "a torn sum": slices.Concat(time, row, spread(last)), "a row that ends too early": slices.Concat(time, []byte{9, 'r', '2'}),
		"a time too long": slices.Concat(bytes.Repeat([]byte{0xff}, 10), row, last),
	} {
		mustToken(t, what, with(framed(body)), api.ErrToken)
	}
	mustToken(t, "no frame", with(slices.Concat(time, row, last)), api.ErrToken)
	mustToken(t, "many bytes", with(make([]byte, 1<<20)), api.ErrToken)
}

// spread sets the highest bit of a number's last byte, so that it goes on.
func spread(b []byte) []byte {
	b = slices.Clone(b)
	b[len(b)-1] |= 0x80
	return b
}
