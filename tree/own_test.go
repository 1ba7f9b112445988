package tree_test

import (
	"bytes"
	"math"
	"math/rand"
	"runtime"
	"slices"
	"strings"
	"testing"
	"time"
	"unsafe"

	"strata/api"
	"strata/cell"
	"strata/merge"
	"strata/tree"
)

// roomy is bytes with spare room behind them that can be looked at.
func roomy(b []byte) []byte {
	whole := slices.Concat(b, bytes.Repeat([]byte{0xc3}, 64))
	return whole[:len(b):len(whole)]
}

// scribble writes over bytes and their spare room.
func scribble(b []byte) {
	b = b[:cap(b)]
	for i := range b {
		b[i] = ^b[i]
	}
}

// handed is bytes that are handed in: they must stay as they are, and may be written over when the call has answered.
type handed struct {
	b, was []byte
}

type hand struct {
	given []handed
}

func (h *hand) bytes(b []byte) []byte {
	b = roomy(b)
	h.given = append(h.given, handed{b, bytes.Clone(b[:cap(b)])})
	return b
}

func (h *hand) entries(l ...api.Entry) []api.Entry {
	var out []api.Entry
	for _, e := range l {
		e.Row, e.Qual, e.Value = h.bytes(e.Row), h.bytes(e.Qual), h.bytes(e.Value)
		out = append(out, e)
	}
	return slices.Concat(out, []api.Entry{{Fam: 77}})[:len(out)]
}

// after: nothing was changed; then all is written over, so that whatever was kept is seen.
func (h *hand) after(t *testing.T, what string) {
	t.Helper()
	for _, x := range h.given {
		if !bytes.Equal(x.b[:cap(x.b)], x.was) {
			t.Fatalf("%s changed what was handed in", what)
		}
		scribble(x.b)
	}
	h.given = nil
}

// borrowed is a text over bytes that may yet change.
func borrowed(b []byte) string { return unsafe.String(unsafe.SliceData(b), len(b)) }

// 11.18: nothing that is handed in is changed or kept.
func TestWhatIsHandedInIsNeitherChangedNorKept(t *testing.T) {
	_, from, _ := three(t)
	i := image(t, from)
	d := newDisk(t, 1<<20)
	m := newModel("t", options())
	var h hand
	prefix, name := h.bytes([]byte("t")), h.bytes([]byte("f"))
	fams := []api.Family{{Name: borrowed(name), Max: 2}, {Name: "spare"}}[:1]
	x, err := tree.Open(d, borrowed(prefix), api.Schema{Fams: fams}, options())
	mustErr(t, "Open", err, api.OK)
	h.after(t, "Open")
	fams[0] = api.Family{Name: "other", Max: 9}

	l := []api.Entry{p("a", 3, 1), with(p("b", 3, 1), func(e *api.Entry) { e.Seq++ })}
	in := h.entries(l...)
	mustErr(t, "Apply", x.Apply(1, 5, 0, in...), api.OK)
	if in[:3][2].Fam != 77 {
		t.Error("Apply wrote behind its list")
	}
	h.after(t, "Apply")
	clear(in[:3])
	m = m.apply(1, 5, 0, l)
	mustErr(t, "Flush", x.Flush(h.bytes([]byte("state"))), api.OK)
	h.after(t, "Flush")
	m = m.flush(t, []byte("state"))
	mustBe(t, "flushed", x, m)
	mustHave(t, "flushed", d, m)
	mustSee(t, "flushed", pin(t, x), m)

	v := pin(t, x)
	olds := []int{1, 99}[:1]
	in = h.entries(l[1:]...)
	mustErr(t, "Replace", x.Replace(olds, in...), api.OK)
	if in[:2][1].Fam != 77 || !slices.Equal(olds[:2], []int{1, 99}) {
		t.Error("Replace changed what was handed in")
	}
	h.after(t, "Replace")
	olds[0] = 2
	v.Release()
	was := m
	m = m.replace(t, []int{1}, l[1:])
	mustHave(t, "replaced", d, m, was)
	mustSee(t, "replaced", pin(t, x), m)

	runs := [][]byte{h.bytes(i.Runs[0]), h.bytes(i.Runs[1]), nil}[:2]
	y := api.Image{Index: 9, Clock: 9, Low: 4, State: h.bytes([]byte("image")), Runs: runs}
	mustErr(t, "Install", x.Install(y), api.OK)
	h.after(t, "Install")
	clear(runs[:3])
	m = m.install(t, api.Image{Index: 9, Clock: 9, Low: 4, State: []byte("image"), Runs: i.Runs[:2]})
	mustBe(t, "installed", x, m)
	mustBeImage(t, "installed", image(t, x), m)
	mustSee(t, "installed", pin(t, x), m)
	if s := x.Schema(); len(s.Fams) != 1 || s.Fams[0].Name != "f" || s.Fams[0].Max != 2 {
		t.Errorf("%+v", s)
	}
	if n, err := x.Verify(2); n != 0 || err != api.OK {
		t.Errorf("%d, %d", n, err)
	}
}

// 11.18: a range's ends are its own.
func TestEndsAreNotKept(t *testing.T) {
	x, m := wide(t, rand.New(rand.NewSource(1118)), 8)
	v := pin(t, x)
	want := between(m.entries(), "a", "b")
	var h hand
	s, err := v.Walk(h.bytes([]byte("a")), h.bytes([]byte("b")))
	up, _ := v.Rows(h.bytes([]byte("a")), h.bytes([]byte("b")), false)
	down, _ := v.Rows(h.bytes([]byte("a")), h.bytes([]byte("b")), true)
	h.after(t, "a view")
	mustTell(t, "Walk", all(t, s, err), want)
	if !slices.Equal(collect(up), rowsOf(want, false)) || !slices.Equal(collect(down), rowsOf(want, true)) {
		t.Error("Rows keeps its ends")
	}
}

// 11.9, 11.11, 11.18: what is told is its caller's own: whoever writes into it changes nothing that is told later.
func TestWhatIsToldIsTheCallersOwn(t *testing.T) {
	x, m := wide(t, rand.New(rand.NewSource(1119)), 8)
	v := pin(t, x)
	nums := append(m.nums(), 0, -1)
	for range 2 {
		for _, num := range nums {
			s, err := v.Walk(nil, nil)
			want := m.entries()
			if num >= 0 {
				s, err = v.Source(num)
				want = source(t, v, num)
			}
			mustErr(t, "a source", err, api.OK)
			for i := 0; ; i++ {
				e, more, err := s.Next()
				mustErr(t, "Next", err, api.OK)
				if !more {
					break
				}
				if !same(e, want[i]) {
					t.Fatalf("%d: %+v, want %+v", i, e, want[i])
				}
				mustBeApart(t, e, want[i])
			}
		}
		for _, back := range []bool{false, true} {
			seq, _ := v.Rows(nil, nil, back)
			want := rowsOf(m.entries(), back)
			for row := range seq {
				if string(row) != want[0] {
					t.Fatalf("%q, want %q", row, want[0])
				}
				want = want[1:]
				scribble(row)
			}
		}
		mustSee(t, "behind it", v, m)
	}
}

// mustBeApart writes over the lists of an entry, one by one: they are not one another's.
func mustBeApart(t *testing.T, e, want api.Entry) {
	t.Helper()
	for _, l := range []struct{ got, want *[]byte }{{&e.Row, &want.Row}, {&e.Qual, &want.Qual}, {&e.Value, &want.Value}} {
		scribble(*l.got)
		*l.got = *l.want
		if !same(e, want) {
			t.Fatal("two lists of one entry share memory")
		}
	}
}

// 11.18: so are the other answers.
func TestAnswersAreNewMemory(t *testing.T) {
	d, x, m := more(t)
	for range 3 {
		runs := x.Runs()
		for i, r := range runs {
			first := bytes.Clone(r.First)
			scribble(r.Last)
			if !bytes.Equal(r.First, first) {
				t.Fatal("First and Last share memory")
			}
			scribble(r.First)
			runs[i] = api.RunMeta{}
		}
		scribble(x.State())
		s := x.Schema()
		clear(s.Fams[:cap(s.Fams)])
		i := image(t, x)
		for n, r := range i.Runs {
			scribble(r)
			i.Runs[n] = nil
		}
		scribble(i.State)
		mustBe(t, "written over", x, m)
		mustBeImage(t, "written over", image(t, x), m)
		mustSee(t, "written over", pin(t, x), m)
		if s := x.Schema(); len(s.Fams) != 1 || s.Fams[0].Name != "f" || s.Fams[0].Max != 2 {
			t.Fatalf("%+v", s)
		}
		if n, err := x.Verify(3); n != 0 || err != api.OK {
			t.Fatalf("%d, %d", n, err)
		}
	}
	mustErr(t, "Flush", x.Flush(nil), api.OK)
	mustHave(t, "flushed", d, m.flush(t, nil))
}

// 11.14: no goroutine is left.
func TestNoGoroutineIsLeft(t *testing.T) {
	d, x, _ := three(t)
	before := runtime.NumGoroutine()
	for i := range 100 {
		if i == 50 {
			d.Delete("tRUN-2")
		}
		x.Verify(1 + i%16)
	}
	for range 100 {
		if runtime.NumGoroutine() <= before {
			return
		}
		time.Sleep(time.Millisecond)
	}
	t.Errorf("%d goroutines, %d before", runtime.NumGoroutine(), before)
}

// 11.18: whatever values come, every call ends, and none panics.
func TestWhateverValuesCome(t *testing.T) {
	r := rand.New(rand.NewSource(1120))
	wild := []int{math.MinInt, -1, 0, 1, 2, 3, 15, 16, 17, 64, 65, 1 << 20, 1 << 40, 1<<40 + 1, math.MaxInt}
	pick := func() int { return wild[r.Intn(len(wild))] }
	entry := func() api.Entry {
		e := api.Entry{Row: letters(r, r.Intn(3)), Fam: pick(), Qual: letters(r, r.Intn(2)), Ts: pick(), Seq: pick(), Kind: r.Intn(7)}
		if r.Intn(2) == 0 {
			e = p(string(letters(r, 1)), 1+r.Intn(3), r.Intn(4))
		}
		return e
	}
	list := func() []api.Entry {
		var l []api.Entry
		for range r.Intn(4) {
			l = append(l, entry())
		}
		if r.Intn(2) == 0 {
			slices.SortFunc(l, cell.Compare)
		}
		return l
	}
	for range 400 {
		d := newDisk(t, r.Intn(3000))
		x, err := tree.Open(d, []string{"", "t", "a b", strings.Repeat("p", 32)}[r.Intn(4)], one(), api.Options{Block: 64 + r.Intn(9), Mem: 1 + r.Intn(9), Stall: 1 + r.Intn(9)})
		if err != api.OK {
			mustErr(t, "Open", err, api.ErrName)
			continue
		}
		d.Arm(r.Intn(60) - 10)
		for range 60 {
			switch r.Intn(7) {
			case 0:
				x.Apply(pick(), pick(), pick(), list()...)
			case 1:
				x.Apply(x.Applied()+1, x.Clock(), x.Low(), list()...)
			case 2:
				x.Flush(make([]byte, r.Intn(2)*r.Intn(200000)))
			case 3:
				x.Replace([]int{r.Intn(9), pick()}[:r.Intn(3)], list()...)
			case 4:
				i, _ := x.Image()
				i.Index += r.Intn(3)
				x.Install(i)
				x.Install(api.Image{Index: pick(), Clock: pick(), Low: pick(), Runs: make([][]byte, r.Intn(3))})
			case 5:
				x.Verify(pick())
			case 6:
				lookWildly(r, x)
			}
		}
	}
}

// lookWildly pins, reads anything, and sometimes forgets to release.
func lookWildly(r *rand.Rand, x *tree.Tree) {
	v, err := x.Pin()
	if err != api.OK {
		return
	}
	if s, err := v.Walk(letters(r, r.Intn(3)), letters(r, r.Intn(300))); err == api.OK {
		merge.Take(s, 1000)
	}
	if seq, err := v.Rows(letters(r, r.Intn(3)), nil, r.Intn(2) == 0); err == api.OK {
		collect(seq)
	}
	if s, err := v.Source(r.Intn(5)); err == api.OK {
		merge.Take(s, 1000)
	}
	if r.Intn(4) > 0 {
		v.Release()
	}
}

// "One Seq, one entry": where a Seq stands twice nothing more is promised, but that nothing panics and all ends.
func TestASeqTwice(t *testing.T) {
	e := p("a", 3, 1)
	twin := with(e, func(e *api.Entry) { e.Value = []byte("another") })
	col := with(e, func(e *api.Entry) { e.Kind, e.Value = api.KCol, nil })
	x := open(t, newDisk(t, 1<<20), "t")
	mustErr(t, "Apply", x.Apply(1, 5, 0, e, col), api.OK)
	mustErr(t, "Flush", x.Flush(nil), api.OK)
	mustErr(t, "Apply", x.Apply(2, 5, 0, p("b", 3, 2)), api.OK)
	mustErr(t, "Flush", x.Flush(nil), api.OK)
	for _, l := range [][]api.Entry{{e}, {twin}, {col, twin}} {
		mustErr(t, "Replace", x.Replace([]int{x.Runs()[0].Num}, l...), api.OK)
		v := pin(t, x)
		s, _ := v.Walk(nil, nil)
		merge.Take(s, 100)
		seq, _ := v.Rows(nil, nil, true)
		collect(seq)
		v.Release()
	}
	i := image(t, x)
	i.Index++
	mustErr(t, "an image of it", x.Install(i), api.OK)
	d := newDisk(t, 1<<20)
	for _, f := range newModel("t", options()).install(t, i).files(t) {
		d.Create(f.Name)
		d.Append(f.Name, f.Data)
	}
	open(t, d, "t")
}
