package bloom_test

import (
	"bytes"
	"math/rand"
	"slices"
	"testing"

	"strata/bloom"
)

// roomy is bytes with spare room behind them that can be looked at.
func roomy(b []byte) []byte {
	out := append(bytes.Clone(b), "spare room"...)
	return out[:len(b)]
}

// whole is bytes and the spare room behind them.
func whole(b []byte) []byte { return b[:cap(b)] }

func spoil(b []byte) {
	for i := range whole(b) {
		whole(b)[i] ^= 0xa5
	}
}

// 6.6: what is handed in stays as it was, with its spare room.
func TestNothingIsChanged(t *testing.T) {
	r := rand.New(rand.NewSource(66))
	for round := range 200 {
		keys := draw(r, 1+r.Intn(20))
		for i := range keys {
			keys[i] = roomy(keys[i])
		}
		keys = append(keys, []byte("spare"))[:len(keys)]
		a := roomy(build(t, 1+round%20, keys...))
		b := roomy(a)
		r.Read(b[6:])
		given := append(slices.Clone(keys[:cap(keys)]), a, b)
		var before [][]byte
		for _, g := range given {
			before = append(before, bytes.Clone(whole(g)))
		}
		bloom.Build(1+round%20, keys...)
		bloom.Build(21, keys...)
		for _, f := range [][]byte{a, b, a[:len(a)-1], b[:round%7]} {
			bloom.Check(f)
			bloom.Has(f, keys[0])
			bloom.Ones(f)
			bloom.Union(f, b)
			bloom.Union(a, f)
		}
		for i, g := range given {
			if !bytes.Equal(whole(g), before[i]) {
				t.Fatalf("%x was %x", whole(g), before[i])
			}
		}
		for i := range keys[:cap(keys)] {
			if n := len(keys[:cap(keys)][i]); n > 0 && &keys[:cap(keys)][i][0] != &given[i][0] {
				t.Fatal("the list of the keys is another")
			}
		}
	}
}

// 6.6: what is handed in is not kept, and answers are new memory, spare room too.
func TestAnswersAreNewMemory(t *testing.T) {
	keys := rows(50)
	a := build(t, 10, keys...)
	want := bytes.Clone(a)
	for _, k := range keys {
		spoil(k)
	}
	if !bytes.Equal(a, want) || !bytes.Equal(build(t, 10, rows(50)...), want) {
		t.Error("Build kept its keys")
	}
	again := build(t, 10, rows(50)...)
	spoil(again)
	if !bytes.Equal(a, want) || !bytes.Equal(build(t, 10, rows(50)...), want) {
		t.Error("two answers of Build have memory in common")
	}
	empty := build(t, 10)
	spoil(empty)
	if !bytes.Equal(build(t, 10), laid(10, nil)) {
		t.Error("two empty filters have memory in common")
	}
	b := build(t, 10, append(rows(49), []byte("other"))...)
	u := union(t, a, b)
	both := bytes.Clone(u)
	first, second := bytes.Clone(a), bytes.Clone(b)
	spoil(u)
	if !bytes.Equal(a, first) || !bytes.Equal(b, second) || !bytes.Equal(union(t, a, b), both) {
		t.Error("Union answers memory of its arguments, or of an earlier answer")
	}
	u = union(t, a, a)
	spoil(a)
	if !bytes.Equal(u, want) {
		t.Error("Union of a filter with itself answers that filter's memory")
	}
}

// 6.6, 6.2: wild bytes; a call of any of them ends, and all agree on whether they are a filter.
func TestWildBytes(t *testing.T) {
	r := rand.New(rand.NewSource(666))
	for range 20000 {
		b := blank(r.Intn(16), 8*(7+r.Intn(4)))
		r.Read(b[6:])
		for range r.Intn(3) {
			b[r.Intn(6)] ^= 1 << r.Intn(8)
		}
		b = b[:len(b)-r.Intn(2)*r.Intn(len(b)+1)]
		err := bloom.Check(b)
		if _, got := bloom.Has(b, []byte("a")); got != err {
			t.Fatalf("%x: Check %d, Has %d", b, err, got)
		}
		u, got := bloom.Union(b, b)
		if got != err || err == 0 && !bytes.Equal(u, b) || err != 0 && len(u) != 0 {
			t.Fatalf("%x: Check %d, Union %x, %d", b, err, u, got)
		}
		if n := bloom.Ones(b); n < 0 || err != 0 && n != 0 {
			t.Fatalf("%x: Check %d, Ones %d", b, err, n)
		}
	}
}
