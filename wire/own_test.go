package wire_test

import (
	"bytes"
	"math"
	"math/rand"
	"slices"
	"sync"
	"testing"

	"strata/api"
	"strata/wire"
)

// handed is bytes with spare room behind them that is watched too.
type handed struct {
	b, whole, was []byte
}

func hand(b []byte) handed {
	whole := join(b, bytes.Repeat([]byte{0xc3}, 64))
	return handed{b: whole[:len(b)], whole: whole, was: bytes.Clone(whole)}
}

func (h handed) mustBeAsItWas(t *testing.T, what string) {
	t.Helper()
	if !bytes.Equal(h.whole, h.was) {
		t.Errorf("%s: what was handed in was changed: % x, was % x", what, h.whole, h.was)
	}
}

// scribble writes over an answer and over the spare room behind it.
func scribble(b []byte) {
	b = b[:cap(b)]
	for i := range b {
		b[i] = ^b[i]
	}
}

// byteCalls: every call that is handed bytes and answers bytes, on input that it takes.
func byteCalls(t *testing.T) []struct {
	what string
	in   []byte
	call func([]byte) []byte
} {
	f := frame(t, []byte("ab\x00"))
	return []struct {
		what string
		in   []byte
		call func([]byte) []byte
	}{
		{"Bytes", []byte("ab\x00"), wire.Bytes},
		{"Bytes of nothing", nil, wire.Bytes},
		{"ReadBytes", []byte("\x03ab\x00"), func(b []byte) []byte { s, _, _ := wire.ReadBytes(b, 0, 3); return s }},
		{"ReadBytes of nothing", []byte{0}, func(b []byte) []byte { s, _, _ := wire.ReadBytes(b, 0, 3); return s }},
		{"Ordered", []byte("ab\x00"), wire.Ordered},
		{"Ordered of nothing", nil, wire.Ordered},
		{"ReadOrdered", []byte("ab\x00\x01"), func(b []byte) []byte { s, _, _ := wire.ReadOrdered(b, 0); return s }},
		{"ReadOrdered with a byte 0", []byte("a\x00\xffb\x00\x01"), func(b []byte) []byte { s, _, _ := wire.ReadOrdered(b, 0); return s }},
		{"ReadOrdered of nothing", []byte("\x00\x01"), func(b []byte) []byte { s, _, _ := wire.ReadOrdered(b, 0); return s }},
		{"Frame", []byte("ab\x00"), func(b []byte) []byte { s, _ := wire.Frame(b); return s }},
		{"Frame of nothing", nil, func(b []byte) []byte { s, _ := wire.Frame(b); return s }},
		{"ReadFrame", f, func(b []byte) []byte { s, _, _ := wire.ReadFrame(b, 0); return s }},
		{"ReadFrame of nothing", frame(t, nil), func(b []byte) []byte { s, _, _ := wire.ReadFrame(b, 0); return s }},
	}
}

// 1.12
func TestAnswersAreNewMemory(t *testing.T) {
	for _, x := range byteCalls(t) {
		h := hand(x.in)
		first := x.call(h.b)
		h.mustBeAsItWas(t, x.what)
		was := bytes.Clone(first)
		second := x.call(h.b)
		scribble(second)
		h.mustBeAsItWas(t, x.what+", its answer written over")
		if !bytes.Equal(first, was) {
			t.Errorf("%s: two answers share memory", x.what)
		}
		scribble(h.whole)
		if !bytes.Equal(first, was) {
			t.Errorf("%s: the answer shares memory with what was handed in", x.what)
		}
	}
}

// 1.12
func TestNumbersAreWrittenInNewMemory(t *testing.T) {
	for _, x := range []struct {
		what string
		call func() []byte
	}{
		{"Uint(0)", func() []byte { return wire.Uint(0) }},
		{"Uint(300)", func() []byte { return wire.Uint(300) }},
		{"Rising", func() []byte { b, _ := wire.Rising(7); return b }},
		{"Falling", func() []byte { b, _ := wire.Falling(7); return b }},
	} {
		first := x.call()
		was := bytes.Clone(first)
		scribble(x.call())
		if !bytes.Equal(first, was) || !bytes.Equal(x.call(), was) {
			t.Errorf("%s: two answers share memory", x.what)
		}
	}
}

// 1.12: what a call without an answer of bytes is handed, and what is refused, stays too.
func TestWhatIsHandedInStays(t *testing.T) {
	r := rand.New(rand.NewSource(112))
	l := [][]byte{nil, {0}, {0x80}, {0, 0}, []byte("a\x00"), frame(t, []byte("x")), frame(t, []byte("x"))[:9]}
	for n := range 40 {
		l = append(l, randomBytes(r, n))
	}
	for _, b := range l {
		h := hand(b)
		wire.ReadUint(h.b, 0)
		wire.ReadBytes(h.b, 0, 100)
		wire.ReadOrdered(h.b, 0)
		wire.ReadRising(h.b, 0)
		wire.ReadFalling(h.b, 0)
		wire.ReadFrame(h.b, 0)
		wire.Sum(h.b, h.b)
		h.mustBeAsItWas(t, "a read")
	}
	long := hand(bytes.Repeat([]byte{1}, api.MaxFrame+1))
	wire.Frame(long.b)
	long.mustBeAsItWas(t, "a frame too long")
	one, two := hand([]byte("one")), hand([]byte("two"))
	parts := [][]byte{one.b, two.b, []byte("behind")}
	wire.Sum(parts[:2]...)
	one.mustBeAsItWas(t, "Sum")
	two.mustBeAsItWas(t, "Sum")
	if string(parts[0])+string(parts[1])+string(parts[2]) != "onetwobehind" {
		t.Errorf("Sum changed its parts: %q", parts)
	}
}

// mustBeAnAnswer holds of every Read: a place behind at, or an error and nothing else.
func mustBeAnAnswer(t *testing.T, what string, b []byte, at, size, end int, err api.Errno) {
	t.Helper()
	if err == api.OK && (end <= at || end > len(b)) || err != api.OK && (end != 0 || size != 0) {
		t.Fatalf("%s(% x, %d): %d, %d, %d", what, b, at, size, end, err)
	}
	if outside := at < 0 || at > len(b); outside && err != api.ErrArg {
		t.Fatalf("%s(% x, %d): %d, want ErrArg", what, b, at, err)
	}
	known := []api.Errno{api.OK, api.ErrArg, api.ErrTorn, api.ErrForm, api.ErrSum, api.ErrBig}
	if !slices.Contains(known, err) {
		t.Fatalf("%s(% x, %d): the error %d", what, b, at, err)
	}
}

// 1.12: no call panics, and each one ends, whatever it is given.
func TestWhateverIsGiven(t *testing.T) {
	r := rand.New(rand.NewSource(1120))
	places := []int{math.MinInt, math.MinInt + 1, -1, 0, 1, math.MaxInt - 8, math.MaxInt - 1, math.MaxInt}
	for i := range 4000 {
		b := fewLetters(r, r.Intn(20))
		if i%3 == 0 {
			b = randomBytes(r, r.Intn(20))
		}
		for _, at := range append(places, len(b)-1, len(b), len(b)+1) {
			v, end, err := wire.ReadUint(b, at)
			mustBeAnAnswer(t, "ReadUint", b, at, int(v), end, err)
			for _, most := range places {
				s, end, err := wire.ReadBytes(b, at, most)
				mustBeAnAnswer(t, "ReadBytes", b, at, len(s), end, err)
			}
			s, end, err := wire.ReadOrdered(b, at)
			mustBeAnAnswer(t, "ReadOrdered", b, at, len(s), end, err)
			n, end, err := wire.ReadRising(b, at)
			mustBeAnAnswer(t, "ReadRising", b, at, n, end, err)
			n, end, err = wire.ReadFalling(b, at)
			mustBeAnAnswer(t, "ReadFalling", b, at, n, end, err)
			s, end, err = wire.ReadFrame(b, at)
			mustBeAnAnswer(t, "ReadFrame", b, at, len(s), end, err)
		}
	}
	for _, n := range places {
		wire.Uint(uint64(n))
		wire.Rising(n)
		wire.Falling(n)
	}
}

// 1.12: nothing is kept from call to call, also where calls go on side by side.
func TestNothingIsKept(t *testing.T) {
	calls := byteCalls(t)
	var want [][]byte
	for _, x := range calls {
		want = append(want, x.call(x.in))
	}
	var all sync.WaitGroup
	for range 8 {
		all.Go(func() {
			for range 200 {
				for i, x := range slices.Backward(calls) {
					if got := x.call(x.in); !bytes.Equal(got, want[i]) {
						t.Errorf("%s: % x, at first % x", x.what, got, want[i])
					}
					wire.ReadFrame(turn(x.in, span(0, 8*len(x.in))...), 0)
					wire.Frame(nil)
				}
				if got := wire.Sum([]byte("123456789")); got != 0xe3069283 {
					t.Errorf("Sum = %x", got)
				}
			}
		})
	}
	all.Wait()
}
