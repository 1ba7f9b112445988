package manifest_test

import (
	"bytes"
	"encoding/binary"
	"hash/crc32"
	"math/rand"
	"slices"
	"testing"

	"strata/api"
	"strata/cell"
	"strata/disk"
	"strata/manifest"
)

// small is v of the chapter's examples.
func small() api.Version { return api.Version{Gen: 1, Next: 1, Clock: 1} }

// gen is v of the chapter's examples of another generation.
func gen(n int) api.Version {
	v := small()
	v.Gen = n
	return v
}

// key is a put's; without a row it is what cell answers of a wrong entry: no key.
func key(row string) []byte {
	k, _ := cell.Key(api.Entry{Row: []byte(row), Fam: 1, Qual: []byte("q"), Ts: 5, Seq: 32, Kind: api.KPut})
	return k
}

// full is a version with a state and three runs, of which each number may go up and down a little.
func full() api.Version {
	return api.Version{Gen: 7, Flushed: 40, Next: 300, Low: 6, Clock: 20, State: []byte("state"), Runs: []api.RunMeta{
		{Num: 5, Count: 1000, Index: 39, Low: 5, Clock: 18, Bytes: 70000, First: key("a"), Last: key("c")},
		{Num: 299, Count: 2, Index: 30, Low: 4, Clock: 15, Bytes: 300, First: key("b"), Last: key("d")},
		{Num: 1, Count: 1, Index: 7, Low: 3, Clock: 9, Bytes: 150, First: key("b"), Last: key("b")},
	}}
}

// largest is the longest version that there may be.
func largest() api.Version {
	v := api.Version{Gen: api.MaxIndex, Flushed: api.MaxIndex, Next: api.MaxIndex, Low: api.MaxTime - 1, Clock: api.MaxTime, State: bytes.Repeat([]byte{'s'}, api.MaxState)}
	zeros := make([]byte, 256)
	for i := range api.MaxRuns {
		k, _ := cell.Key(api.Entry{Row: zeros, Fam: 7, Qual: zeros, Ts: 1 + i, Seq: api.MaxSeq, Kind: api.KHusk})
		v.Runs = append(v.Runs, api.RunMeta{Num: api.MaxIndex - 1 - i, Count: 1<<63 - 1, Index: api.MaxIndex - i, Low: api.MaxTime - 1 - i, Clock: api.MaxTime - i, Bytes: api.MaxRunBytes, First: k, Last: k})
	}
	return v
}

func sameRun(a, b api.RunMeta) bool {
	return a.Num == b.Num && a.Count == b.Count && a.Index == b.Index && a.Low == b.Low && a.Clock == b.Clock &&
		a.Bytes == b.Bytes && bytes.Equal(a.First, b.First) && bytes.Equal(a.Last, b.Last)
}

func same(a, b api.Version) bool {
	return a.Gen == b.Gen && a.Flushed == b.Flushed && a.Next == b.Next && a.Low == b.Low && a.Clock == b.Clock &&
		bytes.Equal(a.State, b.State) && slices.EqualFunc(a.Runs, b.Runs, sameRun)
}

func isNone(v api.Version) bool { return same(v, api.Version{}) }

// summed is bytes and their sum, the lowest byte first.
func summed(b []byte) []byte {
	s := crc32.Checksum(b, crc32.MakeTable(crc32.Castagnoli))
	return binary.LittleEndian.AppendUint32(bytes.Clone(b), s)
}

func number(n uint64) []byte { return binary.AppendUvarint(nil, n) }

func text(b []byte) []byte { return append(number(uint64(len(b))), b...) }

func frame(body []byte) []byte {
	return append(summed(binary.BigEndian.AppendUint32(nil, uint32(len(body)))), summed(body)...)
}

// parts is what a manifest is put together from, each a piece of its body. A test may spoil any of it, and the sums are right all the same.
type parts struct {
	begin []byte
	head  [5][]byte // Gen, Flushed, Next, Low, Clock
	state []byte
	count []byte
	runs  [][8][]byte // Num, Count, Index, Low, Clock, Bytes, First, Last
	more  []byte      // behind the runs
	end   []byte      // behind the frame
}

func partsOf(v api.Version) parts {
	p := parts{begin: []byte("STRATA-M"), state: text(v.State), count: number(uint64(len(v.Runs)))}
	for i, n := range []int{v.Gen, v.Flushed, v.Next, v.Low, v.Clock} {
		p.head[i] = number(uint64(n))
	}
	for _, m := range v.Runs {
		var r [8][]byte
		for i, n := range []int{m.Num, m.Count, m.Index, m.Low, m.Clock, m.Bytes} {
			r[i] = number(uint64(n))
		}
		r[6], r[7] = text(m.First), text(m.Last)
		p.runs = append(p.runs, r)
	}
	return p
}

// bytes puts the parts together.
func (p *parts) bytes() []byte {
	body := slices.Concat(p.head[:]...)
	body = slices.Concat(body, p.state, p.count)
	for _, r := range p.runs {
		body = append(body, slices.Concat(r[:]...)...)
	}
	return slices.Concat(p.begin, frame(append(body, p.more...)), p.end)
}

func encode(t testing.TB, v api.Version) []byte {
	t.Helper()
	b, err := manifest.Encode(v)
	if err != api.OK || len(b) == 0 {
		t.Fatalf("Encode(%+v): %d bytes, %d", v, len(b), err)
	}
	return b
}

func mustRefuse(t testing.TB, what string, b []byte) {
	t.Helper()
	if v, err := manifest.Decode(b); err != api.ErrManifest || !isNone(v) {
		t.Fatalf("%s: Decode: %+v, %d", what, v, err)
	}
}

func mustErr(t testing.TB, what string, got, want api.Errno) {
	t.Helper()
	if got != want {
		t.Fatalf("%s: %d, want %d", what, got, want)
	}
}

// mustLoad: the version that stands there is just this one; of the zero one: there is none.
func mustLoad(t testing.TB, what string, d *disk.Disk, prefix string, want api.Version) {
	t.Helper()
	v, is, err := manifest.Load(d, prefix)
	if err != api.OK || is == isNone(want) || !same(v, want) {
		t.Fatalf("%s: Load: %+v, %v, %d, want %+v", what, v, is, err, want)
	}
}

func load(t testing.TB, capacity int, files ...api.File) *disk.Disk {
	t.Helper()
	d, err := disk.Load(capacity, files...)
	mustErr(t, "disk.Load", err, api.OK)
	return d
}

func sameFiles(a, b []api.File) bool {
	return slices.EqualFunc(a, b, func(a, b api.File) bool {
		return a.Name == b.Name && bytes.Equal(a.Data, b.Data) && a.Synced == b.Synced
	})
}

func letters(r *rand.Rand, n int) []byte {
	b := make([]byte, n)
	for i := range b {
		b[i] = "\x00\x01ab\xfe\xff"[r.Intn(6)]
	}
	return b
}

func drawKey(r *rand.Rand) []byte {
	e := api.Entry{Row: letters(r, 1+r.Intn(3)), Fam: r.Intn(8), Qual: letters(r, r.Intn(3)), Ts: 1 + r.Intn(600), Seq: r.Intn(600), Kind: 1 + r.Intn(5)}
	if e.Kind == api.KFam {
		e.Qual = nil
	}
	k, _ := cell.Key(e)
	return k
}

// draw is a version that may be.
func draw(r *rand.Rand) api.Version {
	wide := 1 + r.Intn(20)*r.Intn(20)
	v := api.Version{Gen: 1 + r.Intn(wide), Clock: 1 + r.Intn(wide), State: letters(r, r.Intn(6))}
	v.Low = r.Intn(v.Clock)
	nums := r.Perm(80)
	v.Next = 81 + r.Intn(wide)
	index, clock, low := 0, 1, 0
	for range r.Intn(5) * r.Intn(4) {
		clock = min(v.Clock, clock+r.Intn(3))
		low = min(v.Low, clock-1, low+r.Intn(3))
		m := api.RunMeta{Num: 1 + nums[0], Count: 1 + r.Intn(wide), Index: index, Low: low, Clock: clock, Bytes: 1 + r.Intn(wide), First: drawKey(r), Last: drawKey(r)}
		if bytes.Compare(m.First, m.Last) > 0 {
			m.First, m.Last = m.Last, m.First
		}
		nums = nums[1:]
		v.Runs = append(v.Runs, m)
		index += 1 + r.Intn(wide)
	}
	slices.Reverse(v.Runs)
	v.Flushed = index
	return v
}

// mayBe is 10.2, thing by thing.
func mayBe(v api.Version) bool {
	ok := v.Gen >= 1 && v.Gen <= 1<<40 && v.Flushed >= 0 && v.Flushed <= 1<<40 && v.Next >= 1 && v.Next <= 1<<40
	ok = ok && v.Clock >= 1 && v.Clock <= 1<<40 && v.Low >= 0 && v.Low < v.Clock && len(v.State) <= 131072 && len(v.Runs) <= 64
	for i, m := range v.Runs {
		_, first := cell.ParseKey(m.First)
		_, last := cell.ParseKey(m.Last)
		ok = ok && m.Num >= 1 && m.Num < v.Next && m.Count >= 1 && m.Index >= 0 && m.Index <= v.Flushed
		ok = ok && m.Clock >= 1 && m.Clock <= v.Clock && m.Low >= 0 && m.Low <= v.Low && m.Low < m.Clock
		ok = ok && m.Bytes >= 1 && m.Bytes <= 1<<24 && first == api.OK && last == api.OK && string(m.First) <= string(m.Last)
		for j, other := range v.Runs {
			ok = ok && (i == j || m.Num != other.Num)
			ok = ok && (j != i+1 || other.Index < m.Index && other.Clock <= m.Clock && other.Low <= m.Low)
		}
	}
	return ok
}
