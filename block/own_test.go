package block_test

import (
	"bytes"
	"math"
	"math/rand"
	"slices"
	"testing"

	"strata/api"
	"strata/block"
)

// 5.10
func TestWhatWasBuiltIsReadAsItWas(t *testing.T) {
	r := rand.New(rand.NewSource(510))
	for round := range 400 {
		restart, l := 1+round%16, draw(r, 1+r.Intn(60))
		x := open(t, build(t, restart, l...))
		if x.Len() != len(l) || !sameAll(all(x), l) {
			t.Fatalf("restart %d: %+v, want %+v", restart, all(x), l)
		}
	}
}

// 5.10: the edges of what an entry may be.
func TestEdgesAreReadAsTheyWere(t *testing.T) {
	zeros := string(make([]byte, 256))
	wide := put(zeros, api.MaxTime, long(4096))
	wide.Qual, wide.Fam, wide.Seq = []byte(zeros), 7, api.MaxSeq
	least := api.Entry{Row: []byte{255}, Ts: 1, Kind: api.KPut}
	l := []api.Entry{
		put("\x00", 5, ""), mark(api.KFam, "\x00\x00", "", 1), wide, mark(api.KCol, "r", "", 5), mark(api.KHusk, "r", "", 5), mark(api.KCell, "r", "", 4), least,
	}
	for restart := 1; restart <= 16; restart++ {
		b := build(t, restart, l...)
		if x := open(t, b); !sameAll(all(x), l) || !bytes.Equal(b, laid(t, restart, l)) {
			t.Errorf("restart %d: %+v", restart, all(x))
		}
	}
}

// 5.10
func TestUnlikeListsMakeUnlikeBlocks(t *testing.T) {
	r := rand.New(rand.NewSource(511))
	for range 300 {
		l := draw(r, 1+r.Intn(20))
		lists := [][]api.Entry{l, l[:len(l)-1], l[1:], draw(r, 1+r.Intn(20))}
		for i, e := range l {
			other := slices.Clone(l)
			other[i].Value = append(bytes.Clone(e.Value), 0)
			lists = append(lists, other, slices.Delete(slices.Clone(l), i, i+1))
		}
		seen := map[string]int{}
		for i, l := range lists {
			for restart := 1; restart <= 16; restart++ {
				b, err := block.Build(restart, l...)
				if err != api.OK {
					break
				}
				id := i*100 + restart
				if was, there := seen[string(b)]; there && (was%100 != restart || !sameAll(lists[was/100], l)) {
					t.Fatalf("one block of list %d with %d and of list %d with %d", was/100, was%100, i, restart)
				}
				seen[string(b)] = id
			}
		}
	}
}

func turn(b []byte, bits ...int) []byte {
	out := bytes.Clone(b)
	for _, bit := range bits {
		out[bit/8] ^= 1 << (bit % 8)
	}
	return out
}

func mustTell(t *testing.T, b []byte, bits ...int) {
	t.Helper()
	if x, err := block.Open(turn(b, bits...)); x != nil || err != api.ErrBlockSum {
		t.Fatalf("with the bits %v of %d bytes turned: %v, %d, want ErrBlockSum", bits, len(b), x, err)
	}
}

// 5.11
func TestABurstIsTold(t *testing.T) {
	r := rand.New(rand.NewSource(512))
	short, middle, full := build(t, 2, three()...), build(t, 16, draw(r, 300)...), build(t, 3, filled(t, 3, 0)...)
	for bit := range 8 * len(short) {
		mustTell(t, short, bit)
		for other := bit + 1; other < min(bit+32, 8*len(short)); other++ {
			mustTell(t, short, bit, other)
		}
	}
	for round := range 6000 {
		b := short
		switch {
		case round%200 == 0:
			b = full
		case round%5 == 0:
			b = middle
		}
		first := r.Intn(8*len(b) - 31)
		if r.Intn(3) == 0 {
			first = 8*len(b) - 32 - r.Intn(48) // about the sum
		}
		bits := []int{first + r.Intn(32)}
		pattern := r.Uint32() & r.Uint32()
		for i := range 32 {
			if pattern>>i&1 == 1 && first+i != bits[0] {
				bits = append(bits, first+i)
			}
		}
		mustTell(t, b, bits...)
	}
}

// roomy is bytes with spare room behind them that can be looked at.
func roomy(b []byte) []byte {
	whole := slices.Concat(b, bytes.Repeat([]byte{0xc3}, 64))
	return whole[:len(b):len(whole)]
}

// scribble writes over bytes and their spare room.
func scribble(b []byte) {
	b = b[:cap(b)]
	for i := range b {
		b[i] = ^b[i]
	}
}

// deep is a list of entries with bytes of their own, and one more entry in the spare room behind it.
func deep(l []api.Entry) []api.Entry {
	out := make([]api.Entry, 0, len(l)+1)
	for _, e := range append(l[:len(l):len(l)], put("spare", 1, "room")) {
		e.Row, e.Qual, e.Value = roomy(e.Row), roomy(e.Qual), roomy(e.Value)
		out = append(out, e)
	}
	return out[:len(l)]
}

// wholes: all bytes that a list of entries reaches, in copies.
func wholes(l []api.Entry) [][]byte {
	var out [][]byte
	for _, e := range l[:cap(l)] {
		for _, b := range [][]byte{e.Row, e.Qual, e.Value} {
			out = append(out, bytes.Clone(b[:cap(b)]))
		}
	}
	return out
}

func scribbleAll(l []api.Entry) {
	for i, e := range l {
		scribble(e.Row)
		scribble(e.Qual)
		scribble(e.Value)
		l[i] = api.Entry{Ts: -1}
	}
}

// 5.12
func TestWhatABuilderIsHandedIsNeitherChangedNorKept(t *testing.T) {
	r := rand.New(rand.NewSource(513))
	for range 60 {
		restart, l := 1+r.Intn(16), draw(r, 20)
		in := deep(l)
		was, entries := wholes(in), slices.Clone(in[:cap(in)])
		x := begin(t, restart)
		for _, e := range in {
			mustAdd(t, x, e, api.OK)
			mustAdd(t, x, e, api.ErrOrder)
		}
		b := build(t, restart, in...)
		if !slices.EqualFunc(wholes(in), was, bytes.Equal) || !sameAll(in[:cap(in)], entries) {
			t.Fatal("what was handed in was changed")
		}
		scribbleAll(in)
		mustHold(t, x, restart, l)
		if !bytes.Equal(b, laid(t, restart, l)) {
			t.Fatal("Build answers memory that was handed in")
		}
	}
}

// 5.12
func TestWhatABlockIsHandedIsNeitherChangedNorKept(t *testing.T) {
	l := draw(rand.New(rand.NewSource(514)), 40)
	in := roomy(build(t, 3, l...))
	was := bytes.Clone(in[:cap(in)])
	x := open(t, in)
	if !bytes.Equal(in[:cap(in)], was) {
		t.Error("Open changed what it was handed")
	}
	scribble(in)
	for i, e := range l {
		k := roomy(key(t, e))
		was := bytes.Clone(k[:cap(k)])
		if x.Seek(k) != i || x.Seek(k[:len(k)-1]) != i || !bytes.Equal(k[:cap(k)], was) {
			t.Errorf("Seek of the key of %d: %d", i, x.Seek(k))
		}
		scribble(k)
	}
	if x.Len() != len(l) || !sameAll(all(x), l) {
		t.Error("Open keeps what it was handed")
	}
	for _, f := range append(faultsOfTheFoot(t), faultsOfEntries(t)...) {
		in := roomy(f.b)
		was := bytes.Clone(in[:cap(in)])
		if block.Open(in); !bytes.Equal(in[:cap(in)], was) {
			t.Errorf("%s: Open changed what it was handed", f.what)
		}
	}
}

// 5.4, 5.12
func TestFinishAnswersNewMemory(t *testing.T) {
	l := draw(rand.New(rand.NewSource(515)), 60)
	x := begin(t, 4)
	var blocks [][]byte
	for _, e := range l {
		mustAdd(t, x, e, api.OK)
		for range 2 {
			b, _ := x.Finish()
			scribble(b)
		}
		b, _ := x.Finish()
		blocks = append(blocks, b)
	}
	mustHold(t, x, 4, l)
	for i, b := range blocks {
		if !bytes.Equal(b, laid(t, 4, l[:i+1])) {
			t.Fatalf("the block of %d entries is another one now", i+1)
		}
	}
}

// 5.12: answers share no memory with the block, with each other, or within themselves.
func TestEntriesAreNewMemory(t *testing.T) {
	l := draw(rand.New(rand.NewSource(516)), 60)
	x := open(t, build(t, 5, l...))
	for i := range l {
		e, _ := x.At(i)
		twin, _ := x.At(i)
		for _, part := range []func(*api.Entry) *[]byte{
			func(e *api.Entry) *[]byte { return &e.Row },
			func(e *api.Entry) *[]byte { return &e.Qual },
			func(e *api.Entry) *[]byte { return &e.Value },
		} {
			scribble(*part(&e))
			*part(&e) = bytes.Clone(*part(&l[i]))
			if !same(e, l[i]) {
				t.Fatalf("the lists of entry %d share memory", i)
			}
		}
		if !same(twin, l[i]) {
			t.Fatalf("two answers of entry %d share memory", i)
		}
	}
	n := 0
	var kept []api.Entry
	for e := range x.All() {
		if !same(e, l[n]) {
			t.Fatalf("at %d: what All gave was written over, and now it gives %+v", n, e)
		}
		kept = append(kept, e)
		if n%2 == 0 {
			scribbleAll([]api.Entry{e})
		}
		n++
	}
	for i, e := range kept {
		if i%2 == 1 && !same(e, l[i]) {
			t.Fatalf("entry %d that All gave is another one now: %+v", i, e)
		}
	}
	if !sameAll(all(x), l) {
		t.Error("answers share memory with the block")
	}
}

// 5.12
func TestWhateverIsGiven(t *testing.T) {
	r := rand.New(rand.NewSource(517))
	wild := []int{math.MinInt, -1, 0, 1, 2, 3, 15, 16, 17, 256, math.MaxInt}
	for range 20000 {
		b := make([]byte, r.Intn(60))
		for i := range b {
			b[i] = byte(r.Intn(256) >> r.Intn(9))
		}
		if len(b) >= 9 && r.Intn(8) > 0 {
			copy(b[len(b)-9:], []byte{0, 0, 0, byte(1 + r.Intn(3)), byte(1 + r.Intn(16))})
			if r.Intn(20) == 0 {
				b[len(b)-9] = byte(r.Intn(256))
			}
			b = resum(b)
		}
		mustOpenAs(t, "any bytes", b)
	}
	for range 2000 {
		e := api.Entry{Row: make([]byte, r.Intn(3)), Fam: wild[r.Intn(len(wild))], Ts: wild[r.Intn(len(wild))], Seq: wild[r.Intn(len(wild))], Kind: wild[r.Intn(len(wild))], Value: make([]byte, r.Intn(2)*r.Intn(5000))}
		if x, err := block.Begin(wild[r.Intn(len(wild))]); err == api.OK {
			x.Add(e)
			x.Add(e)
			if b, err := x.Finish(); (err == api.OK) != (x.Count() == 1) || len(b) != x.Size() {
				t.Fatalf("%d bytes, %d, Count %d, Size %d", len(b), err, x.Count(), x.Size())
			}
		}
	}
}
