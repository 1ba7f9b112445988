package block_test

import (
	"bytes"
	"fmt"
	"iter"
	"math"
	"math/rand"
	"slices"
	"strings"
	"testing"

	"strata/api"
	"strata/block"
)

// mustOpenAs: Open answers what the chapter's words say of b.
func mustOpenAs(t *testing.T, what string, b []byte) {
	t.Helper()
	l, want := verdict(t, b)
	x, err := block.Open(b)
	if err != want || (x == nil) != (want != api.OK) {
		t.Fatalf("%s: Open(% x) = %v, %d, want %d", what, b, x, err, want)
	}
	if x != nil && !sameAll(all(x), l) {
		t.Fatalf("%s: Open(% x) has %+v, want %+v", what, b, all(x), l)
	}
}

// 5.6, 5.7, 5.8
func TestTheExamplesOfABlock(t *testing.T) {
	l := three()
	x := open(t, build(t, 2, l...))
	if x.Len() != 3 || !sameAll(all(x), l) {
		t.Errorf("Len %d, All %+v", x.Len(), all(x))
	}
	for i, e := range l {
		if got, err := x.At(i); err != api.OK || !same(got, e) {
			t.Errorf("At(%d) = %+v, %d", i, got, err)
		}
	}
	k := key(t, l[1])
	for i, c := range []struct {
		key  []byte
		want int
	}{{nil, 0}, {[]byte{}, 0}, {k, 1}, {join(k, []byte{0}), 2}, {[]byte{255}, 3}, {k[:len(k)-1], 1}} {
		if got := x.Seek(c.key); got != c.want {
			t.Errorf("%d: Seek = %d, want %d", i, got, c.want)
		}
	}
}

// 5.6: the errors ahead of the last one, and in their order.
func TestOpenLooksAtTheLengthAndTheSumFirst(t *testing.T) {
	good := build(t, 2, three()...)
	for i, x := range []struct {
		b    []byte
		want api.Errno
	}{
		{nil, api.ErrBlock}, {[]byte{}, api.ErrBlock}, {make([]byte, 8), api.ErrBlock}, {sum(make([]byte, 4)), api.ErrBlock},
		{make([]byte, 9), api.ErrBlockSum}, {sum(make([]byte, 5)), api.ErrBlock}, {sum([]byte{0, 0, 0, 0, 1}), api.ErrBlock},
		{make([]byte, 131072), api.ErrBlockSum}, {sum(make([]byte, 131068)), api.ErrBlock},
		{make([]byte, 131073), api.ErrLong}, {sum(make([]byte, 131069)), api.ErrLong}, {make([]byte, 1<<20), api.ErrLong},
		{good[:len(good)-1], api.ErrBlockSum}, {good[1:], api.ErrBlockSum}, {join(good, []byte{0}), api.ErrBlockSum},
		{join(good[:len(good)-4], []byte{good[len(good)-1], good[len(good)-2], good[len(good)-3], good[len(good)-4]}), api.ErrBlockSum},
		{good, api.OK},
	} {
		if got, err := block.Open(x.b); err != x.want || (got == nil) != (err != api.OK) {
			t.Errorf("%d: %v, %d, want %d", i, got, err, x.want)
		}
	}
}

// 5.6: a block that Build would not have let grow so long, all else being right.
func TestOpenOfABlockTooLong(t *testing.T) {
	l := filled(t, 3, 0)
	last := &l[len(l)-1]
	last.Value = append(last.Value, 'x')
	b := laid(t, 3, l)
	if x, err := block.Open(b); len(b) != 131073 || x != nil || err != api.ErrLong {
		t.Errorf("%d bytes: %d", len(b), err)
	}
}

// fault: bytes with a right sum that are no block.
type fault struct {
	what string
	b    []byte
}

// faultsOfTheFoot: the entries are right, and what stands behind them is not.
func faultsOfTheFoot(t *testing.T) []fault {
	l := []api.Entry{put("r", 5, "v"), put("r", 4, "v"), put("r", 3, "v")}
	k0, k1, k2 := key(t, l[0]), key(t, l[1]), key(t, l[2])
	n := alike(k0, k1)
	r0, r1, r2 := record(0, k0, l[0].Value), record(n, k1[n:], l[1].Value), record(0, k2, l[2].Value)
	rows, at2 := join(r0, r1, r2), len(r0)+len(r1)
	return []fault{
		{"restart 0", foot(rows, []int{0, at2}, 3, 0)},
		{"restart 0 and no place", foot(rows, nil, 3, 0)},
		{"restart 17", foot(r0, []int{0}, 1, 17)},
		{"restart 255", foot(r0, []int{0}, 1, 255)},
		{"another restart with as many places", foot(rows, []int{0, at2}, 3, 1)},
		{"another restart", foot(rows, []int{0}, 3, 3)},
		{"every entry a restart", foot(rows, []int{0, len(r0), at2}, 3, 1)},
		{"no entry", foot(nil, nil, 0, 1)},
		{"no entry is counted", foot(rows, nil, 0, 2)},
		{"no entry is counted, with the places", foot(rows, []int{0, at2}, 0, 2)},
		{"too few are counted", foot(rows, []int{0, at2}, 2, 2)},
		{"too few are counted, and places", foot(rows, []int{0}, 2, 2)},
		{"too many are counted", foot(rows, []int{0, at2}, 4, 2)},
		{"too many are counted, and places", foot(rows, []int{0, at2, len(rows)}, 5, 2)},
		{"as many as there are numbers", foot(rows, []int{0, at2}, 1<<32-1, 16)},
		{"half as many", foot(rows, []int{0, at2}, 1<<31, 1)},
		{"places alone", foot(nil, []int{0}, 1, 1)},
		{"more places than bytes", foot(nil, nil, 1, 1)},
		{"no places", foot(rows, nil, 3, 2)},
		{"a place too few", foot(rows, []int{0}, 3, 2)},
		{"a place too many", foot(rows, []int{0, at2, 0}, 3, 2)},
		{"a place doubled", foot(rows, []int{0, 0, at2}, 3, 2)},
		{"a first place that is not 0", foot(rows, []int{1, at2}, 3, 2)},
		{"a first place far off", foot(rows, []int{1<<32 - 1, at2}, 3, 2)},
		{"the first place is the second", foot(rows, []int{at2, at2}, 3, 2)},
		{"a place too low", foot(rows, []int{0, at2 - 1}, 3, 2)},
		{"a place too high", foot(rows, []int{0, at2 + 1}, 3, 2)},
		{"a place of an entry ahead", foot(rows, []int{0, len(r0)}, 3, 2)},
		{"places the other way round", foot(rows, []int{at2, 0}, 3, 2)},
		{"a place with its lowest byte first", foot(rows, []int{0, at2 << 24}, 3, 2)},
		{"a byte behind the entries", foot(join(rows, []byte{0}), []int{0, at2}, 3, 2)},
		{"an entry behind the entries", foot(join(rows, record(0, key(t, put("t", 5, "v")), nil)), []int{0, at2}, 3, 2)},
		{"a byte ahead of the entries", foot(join([]byte{0}, rows), []int{1, 1 + at2}, 3, 2)},
		{"a byte too few", foot(rows[:len(rows)-1], []int{0, at2}, 3, 2)},
	}
}

// faultsOfEntries: an entry that is written otherwise than Build does, or that is none.
func faultsOfEntries(t *testing.T) []fault {
	l := three()
	k0, k1, k2 := key(t, l[0]), key(t, l[1]), key(t, l[2])
	n, v := alike(k0, k1), []byte("v")
	r0 := record(0, k0, v)
	two := func(what string, second []byte) fault { return fault{what, foot(join(r0, second), []int{0}, 2, 2)} }
	full := func(what string, second []byte) fault {
		return fault{what, foot(join(r0, second), []int{0, len(r0)}, 2, 1)}
	}
	one := func(what string, first []byte) fault { return fault{what, foot(first, []int{0}, 1, 1)} }
	twoBytes := func(n int) []byte { return []byte{byte(n) | 0x80, 0} }
	return []fault{
		two("all of a key that could share", record(0, k1, v)),
		two("shared less than could be", record(n-1, k1[n-1:], v)),
		two("shared more than is alike", record(n+1, k1[n:], v)),
		two("shared more than the key ahead has", record(len(k0)+1, k1[n:], v)),
		two("shared as many as there are numbers", join([]byte("\xff\xff\xff\xff\xff\xff\xff\xff\xff\x01"), text(k1[n:]), text(v))),
		two("shared as many as half the numbers", join([]byte("\x80\x80\x80\x80\x80\x80\x80\x80\x80\x01"), text(k1[n:]), text(v))),
		two("shared more than a number", join([]byte("\xff\xff\xff\xff\xff\xff\xff\xff\xff\x02"), text(k1[n:]), text(v))),
		two("the same key again", record(len(k0), nil, v)),
		two("the same key again, its last byte written", record(len(k0)-1, k0[len(k0)-1:], v)),
		two("a key that ends early", record(n, k1[n:len(k1)-1], v)),
		two("a key that goes on", record(n, join(k1[n:], []byte{0}), v)),
		two("the key ahead goes on", record(len(k0), []byte{1}, v)),
		two("the key ahead begun", record(len(k0)-1, nil, v)),
		two("no key", record(0, nil, v)),
		two("shared in two bytes", join(twoBytes(n), text(k1[n:]), text(v))),
		two("the key's length in two bytes", join(number(uint64(n)), twoBytes(len(k1)-n), k1[n:], text(v))),
		two("the value's length in two bytes", join(number(uint64(n)), text(k1[n:]), twoBytes(1), v)),
		two("a key that reaches into the places", join(number(uint64(n)), number(99), k1[n:], text(v))),
		two("a value that reaches into the places", join(number(uint64(n)), text(k1[n:]), number(2), v)),
		two("a value as long as there are numbers", join(number(uint64(n)), text(k1[n:]), []byte("\xff\xff\xff\xff\xff\xff\xff\xff\xff\x01"), v)),
		two("a key as long as there are numbers", join(number(uint64(n)), []byte("\xff\xff\xff\xff\xff\xff\xff\xff\xff\x01"), k1[n:], text(v))),
		two("no value", join(number(uint64(n)), text(k1[n:]))),
		two("no key and no value", number(uint64(n))),
		two("nothing", nil),
		full("a restart that shares", record(n, k1[n:], v)),
		full("a restart again", record(0, k0, v)),
		full("a restart with the same key", record(0, k0, []byte("w"))),
		full("a restart whose key is none", record(0, k1[1:], v)),
		{"out of order", foot(join(record(0, k1, v), record(n, k0[n:], v)), []int{0}, 2, 2)},
		{"a restart out of order", foot(join(record(0, k2, v), record(0, k0, v)), []int{0, len(r0)}, 2, 1)},
		{"a first entry that shares nothing, in two bytes", foot(join(twoBytes(0), text(k0), text(v)), []int{0}, 1, 1)},
		one("a first entry that shares", record(1, k0[1:], v)),
		one("an empty key", record(0, nil, v)),
		one("a key cut off", record(0, k0[:len(k0)-1], v)),
		one("a key of no row", record(0, k0[1:], v)),
		one("a value of a cell's tombstone", record(0, key(t, mark(api.KCell, "r", "q", 5)), v)),
		one("a value of a husk", record(0, key(t, mark(api.KHusk, "r", "q", 5)), v)),
		one("a value of a column's tombstone", record(0, key(t, mark(api.KCol, "r", "q", 5)), v)),
		one("a value of a family's tombstone", record(0, key(t, mark(api.KFam, "r", "", 5)), v)),
		one("a value too long", record(0, k0, []byte(long(4097)))),
		one("a key of a row too long", record(0, join([]byte(long(257)), k0[1:]), v)),
		one("a key as long as may be in no block", record(0, []byte(long(131000)), nil)),
	}
}

// 5.6
func TestOpenWantsJustWhatBuildAnswers(t *testing.T) {
	for _, f := range append(faultsOfTheFoot(t), faultsOfEntries(t)...) {
		if x, err := block.Open(f.b); x != nil || err != api.ErrBlock {
			t.Errorf("%s: %v, %d, want ErrBlock", f.what, x, err)
		}
		mustOpenAs(t, f.what, f.b)
	}
}

// spoil is b with some bytes changed, lost or more, and a right sum.
func spoil(r *rand.Rand, b []byte) []byte {
	body := bytes.Clone(b[:len(b)-4])
	for range 1 + r.Intn(2) {
		at := r.Intn(len(body))
		if r.Intn(3) == 0 {
			at = len(body) - 1 - r.Intn(min(len(body), 9))
		}
		switch r.Intn(6) {
		case 0:
			body[at] ^= 1 << r.Intn(8)
		case 1:
			body[at] = byte(r.Intn(256))
		case 2:
			body = slices.Delete(body, at, at+1)
		case 3:
			body = slices.Insert(body, at, byte(r.Intn(256)))
		case 4:
			body[at]++
		case 5:
			to := r.Intn(len(body))
			body[at], body[to] = body[to], body[at]
		}
	}
	return sum(body)
}

// 5.6: of blocks with bytes changed under a right sum, those that are blocks still are taken, and no others.
func TestOpenOfSpoiltBlocks(t *testing.T) {
	r := rand.New(rand.NewSource(56))
	taken := 0
	for range 30000 {
		b := spoil(r, build(t, 1+r.Intn(16), draw(r, 1+r.Intn(9))...))
		mustOpenAs(t, "spoilt", b)
		if _, err := verdict(t, b); err == api.OK {
			taken++
		}
	}
	if taken < 100 {
		t.Errorf("only %d were still blocks", taken)
	}
}

// 5.7
func TestLenAndAt(t *testing.T) {
	r := rand.New(rand.NewSource(57))
	for restart := 1; restart <= 16; restart++ {
		for _, n := range []int{1, 2, restart - 1, restart, restart + 1, 2 * restart, 50} {
			l := draw(r, max(n, 1))
			x := open(t, build(t, restart, l...))
			if x.Len() != len(l) {
				t.Fatalf("Len %d, want %d", x.Len(), len(l))
			}
			for _, i := range r.Perm(len(l)) {
				if e, err := x.At(i); err != api.OK || !same(e, l[i]) {
					t.Fatalf("restart %d: At(%d) = %+v, %d, want %+v", restart, i, e, err, l[i])
				}
			}
			for _, i := range []int{-1, len(l), len(l) + 1, -restart, len(l) + restart, math.MinInt, math.MaxInt} {
				if e, err := x.At(i); err != api.ErrArg || !same(e, api.Entry{}) {
					t.Fatalf("restart %d: At(%d) of %d = %+v, %d, want ErrArg", restart, i, len(l), e, err)
				}
			}
		}
	}
}

// 5.8
func TestSeek(t *testing.T) {
	r := rand.New(rand.NewSource(58))
	for round := range 160 {
		restart := 1 + round%16
		l := draw(r, 1+r.Intn(70))
		x := open(t, build(t, restart, l...))
		var keys [][]byte
		for _, e := range l {
			keys = append(keys, key(t, e))
		}
		for _, k := range asked(r, keys) {
			want := slices.IndexFunc(keys, func(x []byte) bool { return bytes.Compare(x, k) >= 0 })
			if want < 0 {
				want = len(l)
			}
			if got := x.Seek(k); got != want {
				t.Fatalf("restart %d, of %d: Seek(% x) = %d, want %d", restart, len(l), k, got, want)
			}
		}
	}
}

// asked: keys, what is just above and below them, what begins them, and others.
func asked(r *rand.Rand, keys [][]byte) [][]byte {
	out := [][]byte{nil, {}, {0}, {0, 0}, {255}, {255, 255, 255, 255}, []byte(strings.Repeat("\xff", 2000))}
	for _, k := range keys {
		out = append(out, k, join(k, []byte{0}), join(k, []byte{255}), k[:len(k)-1], k[:r.Intn(len(k))])
		for range 8 {
			near := bytes.Clone(k)
			at := r.Intn(len(near))
			near[at] += byte(r.Intn(3) - 1)
			out = append(out, near, near[:at+1], join(near[:at+1], keys[r.Intn(len(keys))][min(at, 9):]))
		}
	}
	return out
}

// 5.9
func TestAllIsRangedOver(t *testing.T) {
	r := rand.New(rand.NewSource(59))
	for restart := 1; restart <= 16; restart++ {
		l := draw(r, 40)
		x := open(t, build(t, restart, l...))
		seq := x.All()
		for stop := range len(l) + 1 {
			var got []api.Entry
			for e := range seq {
				if len(got) == stop {
					break
				}
				got = append(got, e)
			}
			if !sameAll(got, l[:stop]) {
				t.Fatalf("restart %d: left behind %d: %+v", restart, stop, got)
			}
		}
		if !sameAll(slices.Collect(seq), l) || !sameAll(slices.Collect(seq), l) {
			t.Fatalf("restart %d: ranged over again", restart)
		}
	}
}

// 5.9
func TestAllWithinItsOwnLoop(t *testing.T) {
	l := draw(rand.New(rand.NewSource(60)), 30)
	x := open(t, build(t, 4, l...))
	seq, n := x.All(), 0
	for outer := range seq {
		m := 0
		for inner := range seq {
			if !same(inner, l[m]) {
				t.Fatalf("within %d, at %d: %+v", n, m, inner)
			}
			m++
			if m == n {
				break
			}
		}
		if !same(outer, l[n]) {
			t.Fatalf("at %d: %+v", n, outer)
		}
		if e, err := x.At(n); err != api.OK || !same(e, outer) || x.Seek(key(t, outer)) != n {
			t.Fatalf("at %d: At and Seek within the loop", n)
		}
		n++
	}
	if n != len(l) {
		t.Errorf("%d, want %d", n, len(l))
	}
}

// 5.9: two that go on by turns do not see each other.
func TestTwoAllsByTurns(t *testing.T) {
	l := draw(rand.New(rand.NewSource(61)), 30)
	x := open(t, build(t, 4, l...))
	next, stop := iter.Pull(x.All())
	defer stop()
	ahead, stopAhead := iter.Pull(x.All())
	defer stopAhead()
	ahead()
	for i := range l {
		a, ok := next()
		b, more := ahead()
		if !ok || !same(a, l[i]) || more != (i+1 < len(l)) || more && !same(b, l[i+1]) {
			t.Fatalf("at %d: %s", i, fmt.Sprint(a, ok, b, more))
		}
	}
}
