package manifest_test

import (
	"bytes"
	"math"
	"math/rand"
	"testing"

	"strata/api"
	"strata/manifest"
)

// change is something that a version may have instead, or may not.
type change struct {
	what string
	do   func(v *api.Version)
	want api.Errno
}

func changesOfNumbers() []change {
	return []change{
		{"nothing", func(v *api.Version) {}, api.OK},
		{"Gen 0", func(v *api.Version) { v.Gen = 0 }, api.ErrVersion},
		{"Gen -1", func(v *api.Version) { v.Gen = -1 }, api.ErrVersion},
		{"Gen 1", func(v *api.Version) { v.Gen = 1 }, api.OK},
		{"the last Gen", func(v *api.Version) { v.Gen = 1 << 40 }, api.OK},
		{"Gen above the last one", func(v *api.Version) { v.Gen = 1<<40 + 1 }, api.ErrVersion},
		{"Flushed -1", func(v *api.Version) { v.Flushed, v.Runs = -1, nil }, api.ErrVersion},
		{"Flushed 0", func(v *api.Version) { v.Flushed, v.Runs = 0, nil }, api.OK},
		{"Flushed as the newest run", func(v *api.Version) { v.Flushed = 39 }, api.OK},
		{"Flushed below the newest run", func(v *api.Version) { v.Flushed = 38 }, api.ErrVersion},
		{"the last Flushed", func(v *api.Version) { v.Flushed = 1 << 40 }, api.OK},
		{"Flushed above the last one", func(v *api.Version) { v.Flushed = 1<<40 + 1 }, api.ErrVersion},
		{"Next 0", func(v *api.Version) { v.Next, v.Runs = 0, nil }, api.ErrVersion},
		{"Next 1 without runs", func(v *api.Version) { v.Next, v.Runs = 1, nil }, api.OK},
		{"Next as the greatest Num", func(v *api.Version) { v.Next = 299 }, api.ErrVersion},
		{"the last Next", func(v *api.Version) { v.Next = 1 << 40 }, api.OK},
		{"Next above the last one", func(v *api.Version) { v.Next = 1<<40 + 1 }, api.ErrVersion},
		{"Clock 0", func(v *api.Version) { v.Clock, v.Low, v.Runs = 0, 0, nil }, api.ErrVersion},
		{"Clock 0 above low", func(v *api.Version) { v.Clock, v.Low, v.Runs = 0, -1, nil }, api.ErrVersion},
		{"Clock 1", func(v *api.Version) { v.Clock, v.Low, v.Runs = 1, 0, nil }, api.OK},
		{"the least Clock of an int", func(v *api.Version) { v.Clock = math.MinInt }, api.ErrVersion},
		{"Clock as the newest run", func(v *api.Version) { v.Clock = 18 }, api.OK},
		{"Clock below the newest run", func(v *api.Version) { v.Clock = 17 }, api.ErrVersion},
		{"the last Clock", func(v *api.Version) { v.Clock = 1 << 40 }, api.OK},
		{"Clock above the last one", func(v *api.Version) { v.Clock = 1<<40 + 1 }, api.ErrVersion},
		{"Low -1", func(v *api.Version) { v.Low, v.Runs = -1, nil }, api.ErrVersion},
		{"Low 0", func(v *api.Version) { v.Low, v.Runs = 0, nil }, api.OK},
		{"Low as the newest run", func(v *api.Version) { v.Low = 5 }, api.OK},
		{"Low below the newest run", func(v *api.Version) { v.Low = 4 }, api.ErrVersion},
		{"Low right below Clock", func(v *api.Version) { v.Low = 19 }, api.OK},
		{"Low as Clock", func(v *api.Version) { v.Low = 20 }, api.ErrVersion},
		{"Low above Clock", func(v *api.Version) { v.Low = 21 }, api.ErrVersion},
		{"no State", func(v *api.Version) { v.State = nil }, api.OK},
		{"the longest State", func(v *api.Version) { v.State = make([]byte, 131072) }, api.OK},
		{"a State too long", func(v *api.Version) { v.State = make([]byte, 131073) }, api.ErrVersion},
	}
}

func changesOfTheFirstRun() []change {
	l := []change{
		{"Num 0", func(v *api.Version) { v.Runs[0].Num = 0 }, api.ErrVersion},
		{"Num -1", func(v *api.Version) { v.Runs[0].Num = -1 }, api.ErrVersion},
		{"Num right below Next", func(v *api.Version) { v.Next = 400; v.Runs[0].Num = 399 }, api.OK},
		{"Num as Next", func(v *api.Version) { v.Runs[0].Num = 300 }, api.ErrVersion},
		{"Num of the second run", func(v *api.Version) { v.Runs[0].Num = 299 }, api.ErrVersion},
		{"Num of the third run", func(v *api.Version) { v.Runs[0].Num = 1 }, api.ErrVersion},
		{"Count 0", func(v *api.Version) { v.Runs[0].Count = 0 }, api.ErrVersion},
		{"Count -1", func(v *api.Version) { v.Runs[0].Count = -1 }, api.ErrVersion},
		{"Count 1", func(v *api.Version) { v.Runs[0].Count = 1 }, api.OK},
		{"the greatest Count", func(v *api.Version) { v.Runs[0].Count = math.MaxInt }, api.OK},
		{"Index as Flushed", func(v *api.Version) { v.Runs[0].Index = 40 }, api.OK},
		{"Index above Flushed", func(v *api.Version) { v.Runs[0].Index = 41 }, api.ErrVersion},
		{"Index right above the second run", func(v *api.Version) { v.Runs[0].Index = 31 }, api.OK},
		{"Index of the second run", func(v *api.Version) { v.Runs[0].Index = 30 }, api.ErrVersion},
		{"Clock of the version", func(v *api.Version) { v.Runs[0].Clock = 20 }, api.OK},
		{"Clock above the version's", func(v *api.Version) { v.Runs[0].Clock = 21 }, api.ErrVersion},
		{"Clock of the second run", func(v *api.Version) { v.Runs[0].Clock = 15 }, api.OK},
		{"Clock below the second run's", func(v *api.Version) { v.Runs[0].Clock = 14 }, api.ErrVersion},
		{"Low of the version", func(v *api.Version) { v.Runs[0].Low = 6 }, api.OK},
		{"Low above the version's", func(v *api.Version) { v.Runs[0].Low = 7 }, api.ErrVersion},
		{"Low of the second run", func(v *api.Version) { v.Runs[0].Low = 4 }, api.OK},
		{"Low below the second run's", func(v *api.Version) { v.Runs[0].Low = 3 }, api.ErrVersion},
		{"Bytes 0", func(v *api.Version) { v.Runs[0].Bytes = 0 }, api.ErrVersion},
		{"Bytes -1", func(v *api.Version) { v.Runs[0].Bytes = -1 }, api.ErrVersion},
		{"Bytes 1", func(v *api.Version) { v.Runs[0].Bytes = 1 }, api.OK},
		{"the most Bytes", func(v *api.Version) { v.Runs[0].Bytes = 16777216 }, api.OK},
		{"Bytes above the most", func(v *api.Version) { v.Runs[0].Bytes = 16777217 }, api.ErrVersion},
	}
	return append(l, changesOfTheKeys()...)
}

func changesOfTheKeys() []change {
	return []change{
		{"no First", func(v *api.Version) { v.Runs[0].First = nil }, api.ErrVersion},
		{"no Last", func(v *api.Version) { v.Runs[0].Last = nil }, api.ErrVersion},
		{"a First that is cut", func(v *api.Version) { v.Runs[0].First = key("a")[:20] }, api.ErrVersion},
		{"a Last with a byte behind it", func(v *api.Version) { v.Runs[0].Last = append(key("c"), 0) }, api.ErrVersion},
		{"a First with a byte behind it", func(v *api.Version) { v.Runs[0].First = append(key("a"), 1) }, api.ErrVersion},
		{"a Last that is cut", func(v *api.Version) { v.Runs[0].Last = key("c")[:len(key("c"))-1] }, api.ErrVersion},
		{"a First that is a row", func(v *api.Version) { v.Runs[0].First = []byte("a") }, api.ErrVersion},
		{"a Last that is a row", func(v *api.Version) { v.Runs[0].Last = []byte("x") }, api.ErrVersion},
		{"First as Last", func(v *api.Version) { v.Runs[0].First = key("c") }, api.OK},
		{"First behind Last", func(v *api.Version) { v.Runs[0].First = key("ca") }, api.ErrVersion},
		{"First far behind Last", func(v *api.Version) { v.Runs[0].Last = key("A") }, api.ErrVersion},
	}
}

func changesOfTheLastRuns() []change {
	return []change{
		{"the second Num as the third", func(v *api.Version) { v.Runs[1].Num = 1 }, api.ErrVersion},
		{"the third Num 0", func(v *api.Version) { v.Runs[2].Num = 0 }, api.ErrVersion},
		{"the third Num as Next", func(v *api.Version) { v.Runs[2].Num = 300 }, api.ErrVersion},
		{"the third Count 0", func(v *api.Version) { v.Runs[2].Count = 0 }, api.ErrVersion},
		{"the third Index 0", func(v *api.Version) { v.Runs[2].Index = 0 }, api.OK},
		{"the third Index -1", func(v *api.Version) { v.Runs[2].Index = -1 }, api.ErrVersion},
		{"the third Index right below the second", func(v *api.Version) { v.Runs[2].Index = 29 }, api.OK},
		{"the third Index as the second", func(v *api.Version) { v.Runs[2].Index = 30 }, api.ErrVersion},
		{"the third Index as the first", func(v *api.Version) { v.Runs[2].Index = 39 }, api.ErrVersion},
		{"the third Clock 1, Low 0", func(v *api.Version) { v.Runs[2].Clock, v.Runs[2].Low = 1, 0 }, api.OK},
		{"the third Clock 0, Low 0", func(v *api.Version) { v.Runs[2].Clock, v.Runs[2].Low = 0, 0 }, api.ErrVersion},
		{"the third Clock 0, Low -1", func(v *api.Version) { v.Runs[2].Clock, v.Runs[2].Low = 0, -1 }, api.ErrVersion},
		{"the third Low -1", func(v *api.Version) { v.Runs[2].Low = -1 }, api.ErrVersion},
		{"the third Clock right above its Low", func(v *api.Version) { v.Runs[2].Clock = 4 }, api.OK},
		{"the third Clock as its Low", func(v *api.Version) { v.Runs[2].Clock = 3 }, api.ErrVersion},
		{"the third Clock below its Low", func(v *api.Version) { v.Runs[2].Clock = 2 }, api.ErrVersion},
		{"the third Clock as the second", func(v *api.Version) { v.Runs[2].Clock = 15 }, api.OK},
		{"the third Clock above the second", func(v *api.Version) { v.Runs[2].Clock = 16 }, api.ErrVersion},
		{"the third Low as the second", func(v *api.Version) { v.Runs[2].Low = 4 }, api.OK},
		{"the third Low above the second", func(v *api.Version) { v.Runs[2].Low = 5 }, api.ErrVersion},
		{"the third Bytes 0", func(v *api.Version) { v.Runs[2].Bytes = 0 }, api.ErrVersion},
		{"the third Last none", func(v *api.Version) { v.Runs[2].Last = nil }, api.ErrVersion},
		{"the third First behind Last", func(v *api.Version) { v.Runs[2].First = key("c") }, api.ErrVersion},
		{"one run twice", func(v *api.Version) { v.Runs[2] = v.Runs[1] }, api.ErrVersion},
		{"runs the wrong way round", func(v *api.Version) { v.Runs[1], v.Runs[2] = v.Runs[2], v.Runs[1] }, api.ErrVersion},
		{"no runs", func(v *api.Version) { v.Runs = nil }, api.OK},
		{"64 runs", func(v *api.Version) { *v = largest() }, api.OK},
		{"65 runs", func(v *api.Version) { *v = largest(); oneRunMore(v) }, api.ErrVersion},
	}
}

// oneRunMore lets a version have one more run than it has, which fits behind the others but for the number of them.
func oneRunMore(v *api.Version) {
	m := v.Runs[len(v.Runs)-1]
	m.Num, m.Index, m.Clock, m.Low = m.Num-1, m.Index-1, m.Clock-1, m.Low-1
	v.Runs = append(v.Runs, m)
}

func allChanges() []change {
	l := append(changesOfNumbers(), changesOfTheFirstRun()...)
	return append(l, changesOfTheLastRuns()...)
}

// 10.1, 10.2, 10.3, 10.9
func TestEveryBoundOfAVersion(t *testing.T) {
	for _, c := range allChanges() {
		v := full()
		c.do(&v)
		mustErr(t, c.what, manifest.Check(v), c.want)
		b, err := manifest.Encode(v)
		mustErr(t, "Encode: "+c.what, err, c.want)
		if c.want != api.OK {
			if len(b) > 0 {
				t.Fatalf("%s: %d bytes beside an error", c.what, len(b))
			}
			p := partsOf(v)
			mustRefuse(t, c.what, p.bytes())
			continue
		}
		if back, err := manifest.Decode(b); err != api.OK || !same(back, v) {
			t.Fatalf("%s: Decode: %+v, %d", c.what, back, err)
		}
	}
}

// 10.2, 10.3: the chapter's examples.
func TestExamplesOfVersions(t *testing.T) {
	clock, low, run := small(), small(), small()
	clock.Clock, low.Low, run.Runs = 0, 1, []api.RunMeta{{Num: 1, Count: 1, Clock: 1, Bytes: 1, First: key("a"), Last: key("a")}}
	for _, v := range []api.Version{{}, clock, low, run} {
		mustErr(t, "Check", manifest.Check(v), api.ErrVersion)
	}
	run.Next = 2
	mustErr(t, "Check", manifest.Check(run), api.OK)
	want := append([]byte("STRATA-M"), frame([]byte{1, 0, 1, 0, 1, 0, 0})...)
	if b := encode(t, small()); !bytes.Equal(b, want) || !bytes.Equal(b[8:12], []byte{0, 0, 0, 7}) {
		t.Errorf("Encode: %x, want %x", b, want)
	}
}

// 10.2: in versions that are drawn and then changed somewhere.
func TestCheckAsTheModel(t *testing.T) {
	r := rand.New(rand.NewSource(102))
	taken := 0
	for range 60000 {
		v := draw(r)
		if !mayBe(v) || manifest.Check(v) != api.OK {
			t.Fatalf("Check(%+v): %d", v, manifest.Check(v))
		}
		twist(r, &v)
		want := api.ErrVersion
		if mayBe(v) {
			want = api.OK
			taken++
		}
		if err := manifest.Check(v); err != want {
			t.Fatalf("Check(%+v): %d, want %d", v, err, want)
		}
	}
	if taken < 5000 || taken > 55000 {
		t.Errorf("%d of the changed versions may be", taken)
	}
}

// twist changes one thing of a version.
func twist(r *rand.Rand, v *api.Version) {
	places := []*int{&v.Gen, &v.Flushed, &v.Next, &v.Low, &v.Clock}
	if len(v.Runs) > 0 && r.Intn(4) > 0 {
		m := &v.Runs[r.Intn(len(v.Runs))]
		places = []*int{&m.Num, &m.Count, &m.Index, &m.Low, &m.Clock, &m.Bytes}
		switch r.Intn(8) {
		case 0:
			m.First = drawKey(r)
			return
		case 1:
			m.Last = m.Last[:r.Intn(len(m.Last))]
			return
		case 2:
			m.Num = v.Runs[r.Intn(len(v.Runs))].Num
			return
		}
	}
	wild := []int{math.MinInt, -1, 0, 1, 2, 1 << 24, 1<<24 + 1, 1 << 40, 1<<40 + 1, math.MaxInt}
	p := places[r.Intn(len(places))]
	if r.Intn(4) == 0 {
		*p = wild[r.Intn(len(wild))]
		return
	}
	*p += r.Intn(7) - 3
}

// 10.3: byte by byte, as the chapter's words have it.
func TestEncodeAsTheModel(t *testing.T) {
	r := rand.New(rand.NewSource(103))
	for i := range 3000 {
		v := draw(r)
		switch i {
		case 0:
			v = full()
		case 1:
			v = largest()
		}
		p := partsOf(v)
		if b := encode(t, v); !bytes.Equal(b, p.bytes()) {
			t.Fatalf("Encode(%+v): %x, want %x", v, b, p.bytes())
		}
		if back, err := manifest.Decode(p.bytes()); err != api.OK || !same(back, v) {
			t.Fatalf("Decode: %+v, %d, want %+v", back, err, v)
		}
	}
}

// long is a number, written with a group more than it needs.
func long(b []byte) []byte {
	b = bytes.Clone(b)
	b[len(b)-1] |= 0x80
	return append(b, 0)
}

// fault is a way to spoil the parts of a manifest.
type fault struct {
	what  string
	spoil func(p *parts)
}

func faults() []fault {
	l := []fault{
		{"another beginning", func(p *parts) { p.begin = []byte("STRATA-R") }},
		{"no beginning", func(p *parts) { p.begin = nil }},
		{"a byte ahead", func(p *parts) { p.begin = []byte("\x00STRATA-M") }},
		{"a shorter beginning", func(p *parts) { p.begin = []byte("STRATA-") }},
		{"a byte behind the frame", func(p *parts) { p.end = []byte{0} }},
		{"another frame behind", func(p *parts) { p.end = frame(nil) }},
		{"a byte behind the runs", func(p *parts) { p.more = []byte{0} }},
		{"a run behind the runs", func(p *parts) { p.count = number(2) }},
		{"a run too few", func(p *parts) { p.count = number(4) }},
		{"no runs, and there are some", func(p *parts) { p.count = number(0) }},
		{"65 runs, and there are three", func(p *parts) { p.count = number(65) }},
		{"very many runs", func(p *parts) { p.count = number(1 << 62) }},
		{"more runs than an int holds", func(p *parts) { p.count = number(1<<63 + 3) }},
		{"the most runs", func(p *parts) { p.count = number(math.MaxUint64) }},
		{"more runs than an int holds, and there are none", func(p *parts) { p.count, p.runs = number(1<<63), nil }},
		{"the most runs, and there are none", func(p *parts) { p.count, p.runs = number(math.MaxUint64), nil }},
		{"32 bits of runs, and there are none", func(p *parts) { p.count, p.runs = number(1<<32), nil }},
		{"32 bits more runs", func(p *parts) { p.count = number(1<<32 + 3) }},
		{"a long number of runs", func(p *parts) { p.count = long(p.count) }},
		{"a long length of a state", func(p *parts) { p.state = append(long(number(5)), "state"...) }},
		{"a state longer than what is left", func(p *parts) { p.state = append(number(1<<40), "state"...) }},
		{"a state that wraps round", func(p *parts) { p.state = append(number(math.MaxUint64), "state"...) }},
		{"a state a byte longer than it is", func(p *parts) { p.state = append(number(6), "state"...) }},
		{"a state a byte shorter than it is", func(p *parts) { p.state = append(number(4), "state"...) }},
		{"nothing but numbers", func(p *parts) { p.state, p.count, p.runs = nil, nil, nil }},
		{"no number of runs", func(p *parts) { p.count, p.runs = nil, nil }},
		{"no body", func(p *parts) { p.state, p.count, p.runs, p.head = nil, nil, nil, [5][]byte{} }},
		{"a number of eleven bytes", func(p *parts) { p.head[0] = append(bytes.Repeat([]byte{0xff}, 10), 0) }},
		{"the last key cut", func(p *parts) { p.runs[2][7] = p.runs[2][7][:9] }},
		{"no last key", func(p *parts) { p.runs[2][7] = nil }},
		{"a long length of a key", func(p *parts) { p.runs[0][6] = append(long(number(uint64(len(key("a"))))), key("a")...) }},
	}
	for i := range 5 {
		l = append(l, fault{"a long number", func(p *parts) { p.head[i] = long(p.head[i]) }})
		for _, n := range []uint64{1 << 63, math.MaxUint64, 1<<63 + 8, 1 << 62} {
			l = append(l, fault{"a number out of an int", func(p *parts) { p.head[i] = number(n) }})
		}
	}
	for i := range 6 {
		l = append(l, fault{"a run's long number", func(p *parts) { p.runs[1][i] = long(p.runs[1][i]) }})
		for _, n := range []uint64{1 << 63, math.MaxUint64, 1<<63 + 2} {
			l = append(l, fault{"a run's number out of an int", func(p *parts) { p.runs[1][i] = number(n) }})
		}
	}
	return l
}

// 10.3: bytes whose sums are right, and of which there is no version all the same.
func TestDecodeRefusesWhatIsNoVersion(t *testing.T) {
	for _, f := range faults() {
		p := partsOf(full())
		f.spoil(&p)
		mustRefuse(t, f.what, p.bytes())
	}
}

// 10.3
func TestDecodeRefusesWhatIsCut(t *testing.T) {
	for _, v := range []api.Version{small(), full()} {
		b := encode(t, v)
		for n := range b {
			mustRefuse(t, "a beginning", b[:n])
		}
		mustRefuse(t, "an end", b[1:])
		mustRefuse(t, "without the beginning", b[8:])
		mustRefuse(t, "with a byte behind", append(bytes.Clone(b), 0))
		mustRefuse(t, "twice", append(bytes.Clone(b), b...))
	}
}

// 10.9: whatever Decode takes, Encode writes just so.
func TestOneForm(t *testing.T) {
	r := rand.New(rand.NewSource(109))
	taken := 0
	for range 30000 {
		p := partsOf(draw(r))
		if len(p.runs) > 0 && r.Intn(2) == 0 {
			p.runs[r.Intn(len(p.runs))][r.Intn(6)] = number(uint64(r.Intn(200)))
		} else {
			p.head[r.Intn(5)] = number(uint64(r.Intn(200)))
		}
		b := p.bytes()
		v, err := manifest.Decode(b)
		if err != api.OK {
			mustRefuse(t, "drawn", b)
			continue
		}
		taken++
		if again := encode(t, v); !bytes.Equal(again, b) {
			t.Fatalf("%x is read as %+v, and that is written as %x", b, v, again)
		}
	}
	if taken < 3000 {
		t.Errorf("%d were taken", taken)
	}
}

// turn turns bits over, counted from the lowest one of each byte on.
func turn(b []byte, bits ...int) {
	for _, k := range bits {
		b[k/8] ^= 1 << (k % 8)
	}
}

// 10.10: up to three bits, all of them in a small manifest.
func TestUpToThreeBitsAreTold(t *testing.T) {
	b := encode(t, small())
	told := func(bits ...int) {
		turn(b, bits...)
		mustRefuse(t, "bits turned", b)
		turn(b, bits...)
	}
	for i := range len(b) * 8 {
		told(i)
		for j := range i {
			told(i, j)
			for k := range j {
				told(i, j, k)
			}
		}
	}
	if _, err := manifest.Decode(b); err != api.OK {
		t.Fatalf("Decode of what was turned back: %d", err)
	}
}

// 10.10: in greater ones, one bit anywhere, and some twos and threes.
func TestBitsOfGreatManifestsAreTold(t *testing.T) {
	r := rand.New(rand.NewSource(1010))
	b := encode(t, full())
	for i := range len(b) * 8 {
		turn(b, i)
		mustRefuse(t, "a bit turned", b)
		turn(b, i)
	}
	for range 20000 {
		bits := r.Perm(len(b) * 8)[:2+r.Intn(2)]
		turn(b, bits...)
		mustRefuse(t, "bits turned", b)
		turn(b, bits...)
	}
}

// 10.10: bits that lie within 32 that follow one another, wherever these begin, over the edges between the parts too.
func TestBurstsAreTold(t *testing.T) {
	r := rand.New(rand.NewSource(1011))
	for _, v := range []api.Version{small(), full()} {
		b := encode(t, v)
		for from := range len(b) * 8 {
			for i := range 40 {
				mask := r.Uint32()
				switch i {
				case 0:
					mask = math.MaxUint32
				case 1:
					mask = 1<<31 | 1
				}
				spoilt := bytes.Clone(b)
				for k := range min(32, len(b)*8-from) {
					if mask>>k&1 == 1 {
						turn(spoilt, from+k)
					}
				}
				if !bytes.Equal(spoilt, b) {
					mustRefuse(t, "a burst", spoilt)
				}
			}
		}
	}
}
