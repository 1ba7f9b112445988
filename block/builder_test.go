package block_test

import (
	"bytes"
	"encoding/binary"
	"math"
	"math/rand"
	"testing"

	"strata/api"
	"strata/block"
	"strata/cell"
)

// 5.1
func TestBegin(t *testing.T) {
	for _, n := range []int{0, 17, -1, 18, 255, 256, 257, 1 << 32, math.MinInt, math.MaxInt} {
		if b, err := block.Begin(n); b != nil || err != api.ErrArg {
			t.Errorf("Begin(%d): %v, %d, want ErrArg", n, b, err)
		}
	}
	for n := 1; n <= 16; n++ {
		mustHold(t, begin(t, n), n, nil)
	}
}

// 5.1
func TestTwoBuildersHaveNothingInCommon(t *testing.T) {
	a, b := begin(t, 2), begin(t, 2)
	mustAdd(t, a, put("s", 5, "v"), api.OK)
	mustHold(t, b, 2, nil)
	mustAdd(t, b, put("r", 5, "w"), api.OK)
	mustAdd(t, a, put("t", 5, "v"), api.OK)
	mustHold(t, a, 2, []api.Entry{put("s", 5, "v"), put("t", 5, "v")})
	mustHold(t, b, 2, []api.Entry{put("r", 5, "w")})
}

// 5.2, 5.3, 5.4
func TestTheExamplesOfABuilder(t *testing.T) {
	a, b, c := three()[0], three()[1], three()[2]
	x := begin(t, 2)
	mustHold(t, x, 2, nil)
	mustAdd(t, x, b, api.OK)
	mustAdd(t, x, a, api.ErrOrder)
	mustAdd(t, x, b, api.ErrOrder)
	mustAdd(t, x, put("", 5, "v"), api.ErrRow)
	mustAdd(t, x, c, api.OK)
	mustHold(t, x, 2, []api.Entry{b, c})
}

// The bytes
func TestABlockIsLaidSo(t *testing.T) {
	k := "r\x00\x01\x00\x01q\x00\x01\x01\x7f\xff\xff\xff\xff\xff\xff\xfa\x7f\xff\xff\xff\xff\xff\xff\xdf\x01"
	got := build(t, 2, three()...)
	want := "\x00\x1a" + k + "\x01v" +
		"\x10\x0a" + "\xfb\x7f\xff\xff\xff\xff\xff\xff\xdf\x01" + "\x01v" +
		"\x00\x1a" + "s" + k[1:] + "\x01v" +
		"\x00\x00\x00\x00" + "\x00\x00\x00\x2c" + "\x00\x00\x00\x03" + "\x02"
	if !bytes.Equal(got, sum([]byte(want))) {
		t.Errorf("% x, want % x and the sum", got, want)
	}
}

// The bytes: which entries are restarts
func TestEveryRestart(t *testing.T) {
	l := draw(rand.New(rand.NewSource(50)), 60)
	for restart := 1; restart <= 16; restart++ {
		for n := 1; n <= len(l); n++ {
			got, want := build(t, restart, l[:n]...), laid(t, restart, l[:n])
			if !bytes.Equal(got, want) {
				t.Fatalf("Build(%d, %d entries): % x, want % x", restart, n, got, want)
			}
		}
	}
}

// The bytes: numbers of more than one byte, and places of more than two
func TestLongKeysAndValues(t *testing.T) {
	var l []api.Entry
	for i := range 24 {
		e := put(long(254)+string([]byte{byte(i)}), 5, long(127+170*i))
		if i == 23 {
			e.Value = []byte(long(4096))
		}
		e.Qual = []byte(long(256))
		l = append(l, mark(api.KCol, long(254)+string([]byte{byte(i)}), long(256), 7), e)
	}
	for restart := 1; restart <= 16; restart++ {
		b := build(t, restart, l...)
		if !bytes.Equal(b, laid(t, restart, l)) || !sameAll(all(open(t, b)), l) {
			t.Errorf("restart %d", restart)
		}
	}
}

// 5.2: the errors of Check come first, and none of them changes anything.
func TestAddTakesEntriesAlone(t *testing.T) {
	with := func(change func(*api.Entry)) api.Entry {
		e := put("s", 5, "v")
		change(&e)
		return e
	}
	for _, before := range [][]api.Entry{nil, {put("r", 5, "v")}, {put("z", 5, "v")}} {
		x := begin(t, 3)
		for _, e := range before {
			mustAdd(t, x, e, api.OK)
		}
		for _, w := range []struct {
			e   api.Entry
			err api.Errno
		}{
			{with(func(e *api.Entry) { e.Row = nil }), api.ErrRow},
			{with(func(e *api.Entry) { e.Row = []byte(long(257)) }), api.ErrRow},
			{with(func(e *api.Entry) { e.Fam = 8 }), api.ErrFam},
			{with(func(e *api.Entry) { e.Fam = -1 }), api.ErrFam},
			{with(func(e *api.Entry) { e.Qual = []byte(long(257)) }), api.ErrQual},
			{with(func(e *api.Entry) { e.Kind = api.KFam }), api.ErrQual},
			{with(func(e *api.Entry) { e.Ts = 0 }), api.ErrTs},
			{with(func(e *api.Entry) { e.Ts = api.MaxTime + 1 }), api.ErrTs},
			{with(func(e *api.Entry) { e.Seq = -1 }), api.ErrSeq},
			{with(func(e *api.Entry) { e.Seq = api.MaxSeq + 1 }), api.ErrSeq},
			{with(func(e *api.Entry) { e.Kind = 6 }), api.ErrKind},
			{with(func(e *api.Entry) { e.Kind = 0 }), api.ErrKind},
			{with(func(e *api.Entry) { e.Kind = api.KHusk }), api.ErrValue},
			{with(func(e *api.Entry) { e.Value = []byte(long(4097)) }), api.ErrValue},
		} {
			if err := cell.Check(w.e); err != w.err {
				t.Fatalf("Check: %d, want %d", err, w.err)
			}
			mustAdd(t, x, w.e, w.err)
			mustHold(t, x, 3, before)
		}
	}
}

// 5.2: behind is as cell.Compare says, and not the value's matter.
func TestAddWantsTheOrder(t *testing.T) {
	l := []api.Entry{
		mark(api.KFam, "r", "", 5), mark(api.KCol, "r", "q", 3), put("r", 9, "v"), mark(api.KHusk, "r", "q", 9), mark(api.KCell, "r", "q", 9),
		put("r", 8, ""), put("r\x00", 9, "v"), put("ra", 9, "v"), put("s", 9, "v"), put("\xff", 9, "v"),
	}
	for i, last := range l {
		for j, e := range l {
			want := api.ErrOrder
			if j > i {
				want = api.OK
			}
			x := begin(t, 1)
			mustAdd(t, x, last, api.OK)
			mustAdd(t, x, e, want)
			if want == api.OK {
				mustHold(t, x, 1, []api.Entry{last, e})
			} else {
				mustHold(t, x, 1, []api.Entry{last})
			}
		}
	}
	x := begin(t, 1)
	mustAdd(t, x, put("r", 5, "v"), api.OK)
	mustAdd(t, x, put("r", 5, "w"), api.ErrOrder)
	mustAdd(t, x, put("r", 5, ""), api.ErrOrder)
}

// filled is a list, in order, whose block leaves so many bytes free.
func filled(t *testing.T, restart, free int) []api.Entry {
	var l []api.Entry
	row := func() string { return string(binary.BigEndian.AppendUint16([]byte("row"), uint16(len(l)))) }
	for len(l) < 115 || len(laid(t, restart, l))+1300 < 131072-free { // 115 leave room, whatever restart is
		l = append(l, put(row(), 5, long(1000)))
	}
	gap := 131072 - free - len(laid(t, restart, append(l, put(row(), 5, ""))))
	l = append(l, put(row(), 5, long(gap-1))) // its length takes two bytes, that of an empty value one
	if n := len(laid(t, restart, l)); n != 131072-free {
		t.Fatalf("%d bytes, want %d", n, 131072-free)
	}
	return l
}

// 5.2, 5.5, 5.6: a block of MaxBlock bytes is one; of one byte more it is none.
func TestAFullBlock(t *testing.T) {
	for _, restart := range []int{1, 2, 5, 16} {
		l := filled(t, restart, 0)
		if b := build(t, restart, l...); len(b) != 131072 || !sameAll(all(open(t, b)), l) {
			t.Errorf("restart %d: %d bytes", restart, len(b))
		}
		last := l[len(l)-1]
		x := begin(t, restart)
		for _, e := range l[:len(l)-1] {
			mustAdd(t, x, e, api.OK)
		}
		more := last
		more.Value = append(bytes.Clone(last.Value), 'x')
		mustAdd(t, x, more, api.ErrBlockFull)
		mustHold(t, x, restart, l[:len(l)-1])
		if b, err := block.Build(restart, append(l[:len(l)-1:len(l)-1], more)...); len(b) != 0 || err != api.ErrBlockFull {
			t.Errorf("restart %d: Build of one byte too many: %d bytes, %d", restart, len(b), err)
		}
		mustAdd(t, x, l[0], api.ErrOrder)
		bad := more
		bad.Ts = 0
		mustAdd(t, x, bad, api.ErrTs)
		mustAdd(t, x, last, api.OK)
		mustHold(t, x, restart, l)
		mustAdd(t, x, put("z", 5, ""), api.ErrBlockFull)
		mustAdd(t, x, last, api.ErrOrder)
		mustHold(t, x, restart, l)
	}
}

// 5.2: the place of a restart takes room too, and of no other entry.
func TestAPlaceTakesRoom(t *testing.T) {
	next := put("z", 5, "v")
	for _, restart := range []int{1, 2, 3, 16} {
		taken := 0
		for free := 28; free < 42; free++ {
			l := filled(t, restart, free)
			b := begin(t, restart)
			for _, e := range l {
				mustAdd(t, b, e, api.OK)
			}
			if with := append(l, next); len(laid(t, restart, with)) <= 131072 {
				mustAdd(t, b, next, api.OK)
				mustHold(t, b, restart, with)
				taken++
			} else {
				mustAdd(t, b, next, api.ErrBlockFull)
				mustHold(t, b, restart, l)
			}
		}
		if taken == 0 || taken == 14 {
			t.Errorf("restart %d: %d of 14 were taken: the bound was not looked at", restart, taken)
		}
	}
}

// 5.2 to 5.4: whatever is refused, the builder holds what it took, and goes on behind each Finish.
func TestABuilderAgainstAList(t *testing.T) {
	r := rand.New(rand.NewSource(52))
	for range 300 {
		restart := 1 + r.Intn(16)
		x, held := begin(t, restart), []api.Entry(nil)
		pool := draw(r, 40)
		for range 60 {
			e := pool[r.Intn(len(pool))]
			if len(held) == 0 || r.Intn(2) == 0 { // most of what is drawn from all stands ahead
				e = pool[min(len(held)*2+r.Intn(3), len(pool)-1)]
			}
			if r.Intn(9) == 0 {
				e.Ts = -e.Ts
			}
			want := cell.Check(e)
			if want == api.OK && len(held) > 0 && cell.Compare(held[len(held)-1], e) != -1 {
				want = api.ErrOrder
			}
			mustAdd(t, x, e, want)
			if want == api.OK {
				held = append(held, e)
			}
			mustHold(t, x, restart, held)
		}
	}
}

// 5.5
func TestBuildTellsTheFirstError(t *testing.T) {
	a, b := three()[0], three()[1]
	bad := put("", 5, "v")
	for i, x := range []struct {
		restart int
		l       []api.Entry
		want    api.Errno
	}{
		{2, nil, api.ErrBlockEmpty}, {17, nil, api.ErrArg}, {0, nil, api.ErrArg},
		{17, []api.Entry{b, a}, api.ErrArg}, {0, []api.Entry{bad}, api.ErrArg},
		{2, []api.Entry{bad}, api.ErrRow}, {2, []api.Entry{a, bad}, api.ErrRow},
		{2, []api.Entry{b, a}, api.ErrOrder}, {2, []api.Entry{a, a}, api.ErrOrder},
		{2, []api.Entry{b, a, bad}, api.ErrOrder}, {2, []api.Entry{b, bad, a}, api.ErrRow},
	} {
		if got, err := block.Build(x.restart, x.l...); len(got) != 0 || err != x.want {
			t.Errorf("%d: % x, %d, want %d", i, got, err, x.want)
		}
	}
}
