package raft_test

import (
	"bytes"
	"math"
	"math/rand"
	"slices"
	"testing"
	"unsafe"

	"strata/api"
	"strata/raft"
)

// deep is a copy that shares no memory.
func deep[T any](x T) T {
	switch v := any(&x).(type) {
	case *api.RaftState:
		v.Log = deepEntries(v.Log)
	case *api.Event:
		v.Msg.Entries = deepEntries(v.Msg.Entries)
		v.Data = slices.Clone(v.Data)
		for i := range v.Data {
			v.Data[i] = bytes.Clone(v.Data[i])
		}
	case *api.Ready:
		v.Entries, v.Snaps, v.Msgs = deepEntries(v.Entries), slices.Clone(v.Snaps), slices.Clone(v.Msgs)
		for i := range v.Msgs {
			v.Msgs[i].Entries = deepEntries(v.Msgs[i].Entries)
		}
	default:
		panic("no copy of this")
	}
	return x
}

func deepEntries(l []api.LogEntry) []api.LogEntry {
	l = slices.Clone(l)
	for i := range l {
		l[i].Data = bytes.Clone(l[i].Data)
	}
	return l
}

// roomy is a copy with spare room behind it, whose numbers can be looked at.
func roomy[T byte | int](l []T) []T {
	whole := append(slices.Clone(l), 77, 78, 79)
	return whole[:len(l)]
}

func roomyEntries(l []api.LogEntry) []api.LogEntry {
	whole := append(deepEntries(l), api.LogEntry{Index: 77, Term: 78, Data: []byte{79}})
	for i := range l {
		whole[i].Data = roomy(l[i].Data)
	}
	return whole[:len(l)]
}

func roomyState(s api.RaftState) api.RaftState {
	s.Log = roomyEntries(s.Log)
	return s
}

func roomyEvent(e api.Event) api.Event {
	e.Msg.Entries = roomyEntries(e.Msg.Entries)
	data := make([][]byte, len(e.Data), len(e.Data)+1)
	for i := range data {
		data[i] = roomy(e.Data[i])
	}
	data[:len(data)+1][len(data)] = []byte{77}
	e.Data = data
	return e
}

// mustBeWhole: a list that roomy made of want, and its spare room, are unchanged.
func mustBeWhole[T byte | int](t *testing.T, l, want []T) {
	t.Helper()
	if !slices.Equal(l, want) || !slices.Equal(l[:len(l)+3][len(l):], []T{77, 78, 79}) {
		t.Fatalf("%v was changed: %v", want, l[:len(l)+3])
	}
}

func mustBeWholeEntries(t *testing.T, l, want []api.LogEntry) {
	t.Helper()
	if !same(l, want) {
		t.Fatalf("%v was changed: %v", want, l)
	}
	for i := range l {
		mustBeWhole(t, l[i].Data, want[i].Data)
	}
	if behind := l[:len(l)+1][len(l)]; !same(behind, api.LogEntry{Index: 77, Term: 78, Data: []byte{79}}) {
		t.Fatalf("the room behind %v was changed", want)
	}
}

func mustBeWholeState(t *testing.T, s, want api.RaftState) {
	t.Helper()
	mustBeWholeEntries(t, s.Log, want.Log)
}

func mustBeWholeEvent(t *testing.T, e, want api.Event) {
	t.Helper()
	mustBeWholeEntries(t, e.Msg.Entries, want.Msg.Entries)
	if len(e.Data) != len(want.Data) || !bytes.Equal(e.Data[:len(e.Data)+1][len(e.Data)], []byte{77}) {
		t.Fatalf("%v was changed", want.Data)
	}
	for i := range e.Data {
		mustBeWhole(t, e.Data[i], want.Data[i])
	}
}

// scribble writes over a list and its spare room.
func scribble[T byte | int](l []T) {
	l = l[:cap(l)]
	for i := range l {
		l[i] = ^l[i]
	}
}

func scribbleEntries(l []api.LogEntry) {
	l = l[:cap(l)]
	for i := range l {
		scribble(l[i].Data)
		l[i] = api.LogEntry{Index: -1, Term: -1, Data: []byte("scribbled")}
	}
}

func scribbleEvent(e api.Event) {
	scribbleEntries(e.Msg.Entries)
	for i, d := range e.Data {
		scribble(d)
		e.Data[i] = nil
	}
}

func scribbleReady(r api.Ready) {
	scribbleEntries(r.Entries)
	for i := range r.Msgs {
		scribbleEntries(r.Msgs[i].Entries)
	}
	clear(r.Msgs[:cap(r.Msgs)])
	scribble(r.Snaps)
}

// stretch is where a list lies, its spare room too.
type stretch struct{ from, to uintptr }

func region[T any](l []T) stretch {
	from := uintptr(unsafe.Pointer(unsafe.SliceData(l)))
	return stretch{from, from + uintptr(cap(l))*unsafe.Sizeof(*new(T))}
}

func listsOfEntries(l []api.LogEntry) []stretch {
	out := []stretch{region(l)}
	for _, e := range l {
		out = append(out, region(e.Data))
	}
	return out
}

func listsOfEvent(e api.Event) []stretch {
	out := append(listsOfEntries(e.Msg.Entries), region(e.Data))
	for _, d := range e.Data {
		out = append(out, region(d))
	}
	return out
}

func listsOfReady(r api.Ready) []stretch {
	out := append(listsOfEntries(r.Entries), region(r.Msgs), region(r.Snaps))
	for _, m := range r.Msgs {
		out = append(out, listsOfEntries(m.Entries)...)
	}
	return out
}

func mustShareNothing(t *testing.T, l []stretch) {
	t.Helper()
	l = slices.DeleteFunc(l, func(s stretch) bool { return s.from == s.to })
	slices.SortFunc(l, func(a, b stretch) int { return int(a.from) - int(b.from) })
	for i := 1; i < len(l); i++ {
		if l[i].from < l[i-1].to {
			t.Fatal("two lists share memory")
		}
	}
}

// 16.20: two nodes of one state have nothing in common.
func TestTwoNodes(t *testing.T) {
	s := parseState("3.0 c1 [1.1=a 2.1=b]")
	c := three()
	a, b := open(t, c, s, 0), open(t, c, s, 0)
	a.do("2 app t4 1.1 [2.4=c 3.4=d]")
	b.is("3.0 c1 [1.1=a 2.1=b]")
	b.wait()
	a.is("4.0 c1 [1.1=a 2.4=c 3.4=d]")
}

// 16.20: whatever values come, every call ends, and none panics; beside an error there is nothing, and nothing has changed.
func TestWhateverValuesCome(t *testing.T) {
	r := rand.New(rand.NewSource(1620))
	wild := []int{math.MinInt, -1, 0, 1, 2, 3, 4, 7, 8, 9, 16, 17, 1000, 1001, 1 << 16, 1 << 40, 1<<40 + 1, math.MaxInt}
	draw := func() int {
		if r.Intn(3) > 0 {
			return r.Intn(5)
		}
		return wild[r.Intn(len(wild))]
	}
	list := func() []api.LogEntry {
		var l []api.LogEntry
		for i := range r.Intn(20) {
			e := api.LogEntry{Index: i + 1, Term: 1 + i/4, Data: noise(r)}
			if r.Intn(10) == 0 {
				e.Index, e.Term = draw(), draw()
			}
			l = append(l, e)
		}
		return l
	}
	made := 0
	for range 4000 {
		c := api.RaftConfig{ID: draw(), Peers: []int{draw(), draw(), draw()}[:r.Intn(4)], Least: draw(), Most: draw(), Beat: draw(), Batch: draw()}
		if r.Intn(3) > 0 {
			c = drawConfig(r)
		}
		s := api.RaftState{Hard: api.Hard{Term: draw(), Vote: draw()}, SnapIndex: draw(), SnapTerm: draw(), Commit: draw(), Log: list()}
		if r.Intn(2) > 0 {
			s = api.RaftState{Hard: api.Hard{Term: 5}, Log: list()}
		}
		n, err := raft.New(c, s, draw())
		if err != api.OK {
			if n != nil || err != api.ErrRaft {
				t.Fatalf("%v, %d", n, err)
			}
			continue
		}
		made++
		for range 40 {
			e := api.Event{Kind: draw(), Draw: draw(), Peer: draw(), Index: draw(), Term: draw(), Data: make([][]byte, r.Intn(3))}
			e.Msg = api.Msg{Kind: draw(), From: draw(), To: c.ID, Term: draw(), Index: draw(), LogTerm: draw(), Commit: draw(), Hint: draw(), Reject: r.Intn(2) == 0, Entries: list()}
			state, progress := n.State(), n.Progress()
			ready, err := n.Step(e)
			if err != api.OK && (!same(ready, api.Ready{}) || !same(n.State(), state) || !same(n.Progress(), progress)) {
				t.Fatalf("%+v: %d, %+v", e, err, ready)
			}
		}
	}
	if made < 100 {
		t.Errorf("%d nodes", made)
	}
}
