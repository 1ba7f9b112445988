package cell_test

import (
	"bytes"
	"math"
	"math/rand"
	"slices"
	"sync"
	"testing"

	"strata/api"
	"strata/cell"
)

// handed is bytes with spare room behind them that is watched too.
type handed struct {
	b, whole, was []byte
}

func hand(b []byte) handed {
	whole := join(b, bytes.Repeat([]byte{0xc3}, 64))
	return handed{b: whole[:len(b)], whole: whole, was: bytes.Clone(whole)}
}

func (h handed) mustBeAsItWas(t *testing.T, what string) {
	t.Helper()
	if !bytes.Equal(h.whole, h.was) {
		t.Errorf("%s: what was handed in was changed: % x, was % x", what, h.whole, h.was)
	}
}

// scribble writes over an answer and over the spare room behind it.
func scribble(b []byte) {
	b = b[:cap(b)]
	for i := range b {
		b[i] = ^b[i]
	}
}

// call: one that is handed lists and answers lists.
type call struct {
	what string
	in   [][]byte
	do   func(in [][]byte) [][]byte
}

func ofEntry(e api.Entry, do func(api.Entry) []byte) ([][]byte, func([][]byte) [][]byte) {
	return [][]byte{e.Row, e.Qual, e.Value}, func(in [][]byte) [][]byte {
		f := e
		f.Row, f.Qual, f.Value = in[0], in[1], in[2]
		return [][]byte{do(f)}
	}
}

func listsOf(e api.Entry) [][]byte { return [][]byte{e.Row, e.Qual, e.Value} }

// byteCalls: every call that answers lists, on input that it takes.
func byteCalls(t *testing.T) []call {
	var l []call
	for _, e := range []api.Entry{base(), with(row("a\x00b"), qual("\x00")), with(qual(""), value("")), with(kind(api.KFam), qual(""), value(""))} {
		in, do := ofEntry(e, func(e api.Entry) []byte { k, _ := cell.Key(e); return k })
		l = append(l, call{"Key", in, do})
		in, do = ofEntry(e, func(e api.Entry) []byte { p, _ := cell.Pack(e); return p })
		l = append(l, call{"Pack", in, do})
		l = append(l, call{"ParseKey", [][]byte{key(t, e)}, func(in [][]byte) [][]byte { e, _ := cell.ParseKey(in[0]); return listsOf(e) }})
		l = append(l, call{"Unpack", [][]byte{pack(t, e)}, func(in [][]byte) [][]byte { e, _, _ := cell.Unpack(in[0], 0); return listsOf(e) }})
		l = append(l, call{"Start", [][]byte{e.Row}, func(in [][]byte) [][]byte { b, _ := cell.Start(in[0]); return [][]byte{b} }})
		l = append(l, call{"Behind", [][]byte{e.Row}, func(in [][]byte) [][]byte { b, _ := cell.Behind(in[0]); return [][]byte{b} }})
	}
	return l
}

func cloneAll(l [][]byte) [][]byte {
	var out [][]byte
	for _, b := range l {
		out = append(out, bytes.Clone(b))
	}
	return out
}

func equalAll(a, b [][]byte) bool { return slices.EqualFunc(a, b, bytes.Equal) }

// 2.12
func TestAnswersAreNewMemory(t *testing.T) {
	for _, x := range byteCalls(t) {
		var hands []handed
		var in [][]byte
		for _, b := range x.in {
			h := hand(b)
			hands, in = append(hands, h), append(in, h.b)
		}
		first := x.do(in)
		was := cloneAll(first)
		second := x.do(in)
		for i := range second {
			others := cloneAll(second)
			scribble(second[i])
			for j := range second {
				if j != i && !bytes.Equal(second[j], others[j]) {
					t.Errorf("%s: two lists of one answer share memory", x.what)
				}
			}
		}
		for _, h := range hands {
			h.mustBeAsItWas(t, x.what)
		}
		if !equalAll(first, was) {
			t.Errorf("%s: two answers share memory", x.what)
		}
		for _, h := range hands {
			scribble(h.whole)
		}
		if !equalAll(first, was) {
			t.Errorf("%s: the answer shares memory with what was handed in", x.what)
		}
	}
}

// 2.12: what a call without lists to answer is handed, and what is refused, stays too.
func TestWhatIsHandedInStays(t *testing.T) {
	l := someEntries()
	for _, x := range wrong() {
		l = append(l, x.e)
	}
	for _, e := range l {
		r, q, v := hand(e.Row), hand(e.Qual), hand(e.Value)
		e.Row, e.Qual, e.Value = r.b, q.b, v.b
		cell.Check(e)
		cell.Compare(e, base())
		cell.Compare(base(), e)
		cell.Key(e)
		cell.Pack(e)
		cell.Start(e.Row)
		cell.Behind(e.Row)
		cell.ParseKey(e.Row)
		cell.Unpack(e.Row, 0)
		for _, h := range []handed{r, q, v} {
			h.mustBeAsItWas(t, "an entry's")
		}
	}
	fams := []api.Family{{Name: "b", Max: 1}, {Name: "a", Max: 1}, {Name: "spare", Max: 3}}
	was := slices.Clone(fams)
	cell.CheckSchema(api.Schema{Fams: fams[:2]})
	cell.Family(api.Schema{Fams: fams[:2]}, "a")
	if !slices.Equal(fams, was) {
		t.Errorf("the schema was changed: %+v", fams)
	}
}

// 2.12: no call panics, and each one ends, whatever it is given.
func TestWhateverIsGiven(t *testing.T) {
	r := rand.New(rand.NewSource(212))
	numbers := []int{math.MinInt, -1, 0, 1, 2, 3, 4, 5, 6, 255, 256, 1 << 32, math.MaxInt - 8, math.MaxInt}
	number := func() int { return numbers[r.Intn(len(numbers))] }
	text := func() []byte {
		b := make([]byte, r.Intn(40))
		for i := range b {
			b[i] = "\x00\x00\x01\x01\x02a\x7f\xff"[r.Intn(8)]
		}
		return b
	}
	for range 20000 {
		e := api.Entry{Row: text(), Fam: number(), Qual: text(), Ts: number(), Seq: number(), Kind: number(), Value: text()}
		err := cell.Check(e)
		if k, got := cell.Key(e); got != err || (err == api.OK) != (len(k) > 0) {
			t.Fatalf("Key(%+v) = % x, %d; Check is %d", e, k, got, err)
		}
		if p, got := cell.Pack(e); got != err || (err == api.OK) != (len(p) > 0) {
			t.Fatalf("Pack(%+v) = % x, %d; Check is %d", e, p, got, err)
		}
		if got, err := cell.ParseKey(e.Row); err != api.OK && (err != api.ErrKey || !empty(got)) {
			t.Fatalf("ParseKey(% x) = %+v, %d", e.Row, got, err)
		}
		for _, at := range append(numbers, len(e.Row), len(e.Row)+1) {
			if got, end, err := cell.Unpack(e.Row, at); err != api.OK && (end != 0 || !empty(got)) {
				t.Fatalf("Unpack(% x, %d) = %+v, %d, %d", e.Row, at, got, end, err)
			}
		}
		cell.CheckSchema(api.Schema{Fams: []api.Family{{Name: string(e.Row), Max: e.Fam, TTL: e.Ts}, {Name: string(e.Qual), Max: e.Kind}}})
	}
}

// 2.12: nothing is kept from call to call, also where calls go on side by side.
func TestNothingIsKept(t *testing.T) {
	calls := byteCalls(t)
	var want [][][]byte
	for _, x := range calls {
		want = append(want, x.do(x.in))
	}
	var all sync.WaitGroup
	for range 8 {
		all.Go(func() {
			for range 100 {
				for i, x := range slices.Backward(calls) {
					if got := x.do(x.in); !equalAll(got, want[i]) {
						t.Errorf("%s: % x, at first % x", x.what, got, want[i])
					}
					cell.ParseKey([]byte("r\x00"))
					cell.Unpack([]byte{9}, 0)
					if got := cell.Compare(base(), with(ts(6))); got != 1 {
						t.Errorf("Compare = %d", got)
					}
				}
			}
		})
	}
	all.Wait()
}
