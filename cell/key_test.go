package cell_test

import (
	"bytes"
	"math/rand"
	"testing"

	"strata/api"
	"strata/cell"
	"strata/wire"
)

func join(parts ...[]byte) []byte { return bytes.Join(parts, nil) }

func falling(t *testing.T, n int) []byte {
	t.Helper()
	b, err := wire.Falling(n)
	if err != api.OK {
		t.Fatal(n, err)
	}
	return b
}

func key(t *testing.T, e api.Entry) []byte {
	t.Helper()
	k, err := cell.Key(e)
	if err != api.OK {
		t.Fatalf("Key(%+v): %d", e, err)
	}
	return k
}

func withoutValue(e api.Entry) api.Entry {
	e.Value = nil
	return e
}

// someEntries: entries that Check takes, many of which are parted by one thing alone, and the edges.
func someEntries() []api.Entry {
	var l []api.Entry
	texts := []string{"", "\x00", "\x00\x00", "\x00\x01", "\x00\xff", "\x01", "a", "a\x00", "a\x00b", "ab", "\xff", "\xff\xff"}
	for _, r := range texts[1:] {
		for _, k := range []int{api.KPut, api.KHusk, api.KCell, api.KCol, api.KFam} {
			for _, q := range texts {
				if k == api.KFam && q != "" {
					continue
				}
				l = append(l, with(row(r), qual(q), kind(k), value("")))
			}
		}
	}
	for _, k := range []int{api.KPut, api.KHusk, api.KCell, api.KCol, api.KFam} {
		for _, change := range []func(*api.Entry){fam(0), fam(7), ts(1), ts(4), ts(255), ts(256), ts(1 << 40), seq(0), seq(31), seq(33), seq(1<<44 + 15)} {
			l = append(l, with(qual(""), kind(k), value(""), change))
			if k != api.KFam {
				l = append(l, with(kind(k), value(""), change))
			}
		}
	}
	zeros := string(make([]byte, 256))
	l = append(l, with(row(zeros), qual(zeros)), with(row(long(256)), qual(long(256)), value(long(4096))))
	return append(l, base(), with(value("")), with(value("w")), with(value("\x00")))
}

// randomEntry is one that Check takes, of few letters, so that many are alike.
func randomEntry(r *rand.Rand) api.Entry {
	text := func(n int) []byte {
		b := make([]byte, n)
		for i := range b {
			b[i] = "\x00\x01\x02a\xfe\xff"[r.Intn(6)]
		}
		return b
	}
	e := api.Entry{Row: text(1 + r.Intn(3)), Fam: r.Intn(3), Qual: text(r.Intn(3)), Ts: 1 + r.Intn(3), Seq: r.Intn(3), Kind: 1 + r.Intn(5)}
	switch e.Kind {
	case api.KFam:
		e.Qual = nil
	case api.KPut:
		e.Value = text(r.Intn(4))
	}
	return e
}

// 2.3
func TestKeyIsLaidSo(t *testing.T) {
	for i, x := range []struct {
		e    api.Entry
		want []byte
	}{
		{base(), join(wire.Ordered([]byte("r")), []byte{1, 1}, wire.Ordered([]byte("q")), []byte{1}, falling(t, 5), falling(t, 32), []byte{1})},
		{base(), []byte("r\x00\x01\x01\x01q\x00\x01\x01\x7f\xff\xff\xff\xff\xff\xff\xfa\x7f\xff\xff\xff\xff\xff\xff\xdf\x01")},
		{with(kind(api.KHusk), value("")), join([]byte("r\x00\x01\x01\x01q\x00\x01\x01"), falling(t, 5), falling(t, 32), []byte{2})},
		{with(kind(api.KCell), value("")), join([]byte("r\x00\x01\x01\x01q\x00\x01\x01"), falling(t, 5), falling(t, 32), []byte{3})},
		{with(kind(api.KCol), value("")), join([]byte("r\x00\x01\x01\x01q\x00\x01\x00"), falling(t, 5), falling(t, 32), []byte{4})},
		{with(kind(api.KFam), qual(""), value("")), join([]byte("r\x00\x01\x01\x00"), falling(t, 5), falling(t, 32), []byte{5})},
		{with(row("\x00"), fam(7), qual(""), ts(1<<40), seq(0)), join([]byte("\x00\xff\x00\x01\x07\x01\x00\x01\x01"), falling(t, 1<<40), falling(t, 0), []byte{1})},
	} {
		if got := key(t, x.e); !bytes.Equal(got, x.want) {
			t.Errorf("%d: Key = % x, want % x", i, got, x.want)
		}
	}
}

// 2.4
func TestKeysSortAsEntries(t *testing.T) {
	l := someEntries()
	r := rand.New(rand.NewSource(24))
	for range 600 {
		l = append(l, randomEntry(r))
	}
	keys := make([][]byte, len(l))
	for i, e := range l {
		keys[i] = key(t, e)
	}
	for i, a := range l {
		for j, b := range l {
			n := cell.Compare(a, b)
			if got := bytes.Compare(keys[i], keys[j]); got != n {
				t.Fatalf("%+v and %+v: Compare is %d, of their keys %d", a, b, n, got)
			}
			if n != 0 && bytes.HasPrefix(keys[j], keys[i]) {
				t.Fatalf("the key of %+v begins that of %+v", a, b)
			}
		}
	}
}

// 2.5, 2.11
func TestParseKeyReadsKeys(t *testing.T) {
	l := someEntries()
	r := rand.New(rand.NewSource(25))
	for range 2000 {
		l = append(l, randomEntry(r))
	}
	for _, e := range l {
		k := key(t, e)
		got, err := cell.ParseKey(k)
		if err != api.OK || !same(got, withoutValue(e)) {
			t.Fatalf("ParseKey(% x) = %+v, %d, want %+v", k, got, err, e)
		}
	}
}

// 2.5
func TestParseKeyRefuses(t *testing.T) {
	head, tail := []byte("r\x00\x01\x01\x01q\x00\x01\x01"), join(falling(t, 5), falling(t, 32))
	famHead := []byte("r\x00\x01\x01\x00")
	colHead := []byte("r\x00\x01\x01\x01q\x00\x01\x00")
	zeros, x257 := string(make([]byte, 257)), long(257)
	for i, b := range [][]byte{
		nil, {0}, {1}, {0, 1}, []byte("r"), []byte("r\x00\x02"),
		join(head, tail, []byte{0}), join(head, tail, []byte{6}), join(head, tail, []byte{255}),
		join(head, tail, []byte{4}), join(head, tail, []byte{5}), // the marks of a put, the kind of a tombstone
		join(colHead, tail, []byte{1}), join(colHead, tail, []byte{3}), join(colHead, tail, []byte{5}),
		join(famHead, tail, []byte{1}), join(famHead, tail, []byte{4}), join(famHead, tail, []byte{0}),
		join([]byte("r\x00\x01\x01\x02q\x00\x01\x01"), tail, []byte{1}), // marks that are none
		join([]byte("r\x00\x01\x01\x02q\x00\x01\x01"), tail, []byte{5}),
		join([]byte("r\x00\x01\x01\x02"), tail, []byte{5}),
		join([]byte("r\x00\x01\x01\x01q\x00\x01\x02"), tail, []byte{1}),
		join([]byte("r\x00\x01\x01\x01q\x00\x01\x02"), tail, []byte{4}),
		join([]byte("r\x00\x01\x01\xffq\x00\x01\x01"), tail, []byte{1}),
		join(head, tail, []byte{1, 0}), join(head, tail, []byte{1}, tail), // bytes behind
		join(famHead, tail, []byte{5, 5}),
		join(famHead, []byte("q\x00\x01\x01"), tail, []byte{5}),                      // a family's tombstone with a qualifier
		join([]byte("\x00\x01\x01\x01q\x00\x01\x01"), tail, []byte{1}),               // no row
		join([]byte("r\x00\x01\x08\x01q\x00\x01\x01"), tail, []byte{1}),              // no such family
		join([]byte("r\x00\x01\xff\x01q\x00\x01\x01"), tail, []byte{1}),              // nor that one
		join([]byte(x257), []byte("\x00\x01\x01\x01q\x00\x01\x01"), tail, []byte{1}), // a row too long
		join(wire.Ordered([]byte(zeros)), []byte("\x01\x01q\x00\x01\x01"), tail, []byte{1}),
		join([]byte("r\x00\x01\x01\x01"), []byte(x257), []byte("\x00\x01\x01"), tail, []byte{1}), // a qualifier too long
		join(head, falling(t, 0), falling(t, 32), []byte{1}),                                     // times and Seqs outside
		join(head, falling(t, 1<<40+1), falling(t, 32), []byte{1}),
		join(head, falling(t, 5), falling(t, 1<<44+16), []byte{1}),
		join(head, falling(t, 1<<62), falling(t, 32), []byte{1}),
		join(head, []byte{0x80, 0, 0, 0, 0, 0, 0, 0}, falling(t, 32), []byte{1}),
		join(head, falling(t, 5), []byte{0xff, 0, 0, 0, 0, 0, 0, 0}, []byte{1}),
		join([]byte("r\x00\x02\x01\x01q\x00\x01\x01"), tail, []byte{1}), // text that nothing is written as
		join([]byte("r\x00\x01\x01\x01q\x00\x00\x01\x01"), tail, []byte{1}),
		// a qualifier without an end, whose bytes would be a time, a Seq and a kind if they were read from the beginning once more
		{1, 0x7f, 0xff, 0xff, 0, 1, 1, 1, 'q', 0x7f, 0xff, 0xff, 0xff, 0xff, 0xff, 0xff, 0xdf, 1},
	} {
		if e, err := cell.ParseKey(b); err != api.ErrKey || !empty(e) {
			t.Errorf("%d: ParseKey(% x) = %+v, %d, want ErrKey", i, b, e, err)
		}
	}
}

// 2.5: a key that is cut off anywhere, or that goes on, is none.
func TestParseKeyWantsTheWhole(t *testing.T) {
	for _, e := range someEntries() {
		k := key(t, e)
		if len(k) > 100 {
			continue
		}
		for n := range k {
			if got, err := cell.ParseKey(k[:n]); err != api.ErrKey || !empty(got) {
				t.Fatalf("ParseKey(% x) = %+v, %d, want ErrKey", k[:n], got, err)
			}
		}
		for c := range 256 {
			if got, err := cell.ParseKey(append(bytes.Clone(k), byte(c))); err != api.ErrKey || !empty(got) {
				t.Fatalf("ParseKey(% x %02x) = %+v, %d, want ErrKey", k, c, got, err)
			}
		}
	}
}

// 2.5, 2.11: what ParseKey reads is just that entry's key, whatever was done to the bytes.
func TestParseKeyReadsNothingElse(t *testing.T) {
	read, refused := 0, 0
	for _, e := range someEntries() {
		k := key(t, e)
		if len(k) > 100 {
			continue
		}
		for i := range k {
			for _, c := range []byte{0, 1, 2, 3, 4, 5, 6, 7, 8, 0x7f, 0x80, 0xfe, 0xff, k[i] ^ 1, k[i] ^ 0x80} {
				b := bytes.Clone(k)
				b[i] = c
				got, err := cell.ParseKey(b)
				if err != api.OK {
					refused++
					if err != api.ErrKey || !empty(got) {
						t.Fatalf("ParseKey(% x) = %+v, %d", b, got, err)
					}
					continue
				}
				read++
				if back, err := cell.Key(got); err != api.OK || !bytes.Equal(back, b) {
					t.Fatalf("ParseKey(% x) = %+v, whose key is % x, %d", b, got, back, err)
				}
			}
		}
	}
	if read == 0 || refused == 0 {
		t.Errorf("%d read, %d refused", read, refused)
	}
}

// 2.8
func TestStartAndBehind(t *testing.T) {
	l := someEntries()
	for _, e := range l {
		start, err := cell.Start(e.Row)
		if err != api.OK || !bytes.Equal(start, wire.Ordered(e.Row)) {
			t.Fatalf("Start(% x) = % x, %d", e.Row, start, err)
		}
		behind, err := cell.Behind(e.Row)
		if err != api.OK || !bytes.Equal(behind, append(wire.Ordered(e.Row), 255)) {
			t.Fatalf("Behind(% x) = % x, %d", e.Row, behind, err)
		}
	}
	for _, a := range l {
		start, _ := cell.Start(a.Row)
		behind, _ := cell.Behind(a.Row)
		for _, b := range l {
			k, n := key(t, b), bytes.Compare(b.Row, a.Row)
			if begins := bytes.HasPrefix(k, start); begins != (n == 0) {
				t.Fatalf("Start(% x) begins the key of the row % x: %v", a.Row, b.Row, begins)
			}
			if got := bytes.Compare(k, behind); n <= 0 && got != -1 || n > 0 && got != 1 {
				t.Fatalf("the key of the row % x and Behind(% x): %d", b.Row, a.Row, got)
			}
		}
	}
}

// 2.8
func TestStartAndBehindRefuse(t *testing.T) {
	for _, r := range [][]byte{nil, {}, []byte(long(257)), make([]byte, 257), make([]byte, 5000)} {
		if b, err := cell.Start(r); err != api.ErrRow || len(b) != 0 {
			t.Errorf("Start of %d bytes = % x, %d, want ErrRow", len(r), b, err)
		}
		if b, err := cell.Behind(r); err != api.ErrRow || len(b) != 0 {
			t.Errorf("Behind of %d bytes = % x, %d, want ErrRow", len(r), b, err)
		}
	}
}
