package manifest_test

import (
	"bytes"
	"math"
	"math/rand"
	"slices"
	"strings"
	"testing"
	"unsafe"

	"strata/api"
	"strata/disk"
	"strata/manifest"
)

// roomy is bytes with spare room behind them that can be looked at.
func roomy(b []byte) []byte {
	whole := slices.Concat(b, bytes.Repeat([]byte{0xc3}, 64))
	return whole[:len(b):len(whole)]
}

// scribble writes over bytes and their spare room.
func scribble(b []byte) {
	b = b[:cap(b)]
	for i := range b {
		b[i] = ^b[i]
	}
}

// deep is a version with bytes of its own, and one more run in the spare room behind its runs.
func deep(v api.Version) api.Version {
	v.State = roomy(v.State)
	runs := make([]api.RunMeta, 0, len(v.Runs)+1)
	for _, m := range append(slices.Clip(v.Runs), api.RunMeta{Num: -7}) {
		m.First, m.Last = roomy(m.First), roomy(m.Last)
		runs = append(runs, m)
	}
	v.Runs = runs[:len(v.Runs)]
	return v
}

// wholes: all bytes that a version reaches, spare room too, in copies.
func wholes(v api.Version) [][]byte {
	out := [][]byte{bytes.Clone(v.State[:cap(v.State)])}
	for _, m := range v.Runs[:cap(v.Runs)] {
		out = append(out, bytes.Clone(m.First[:cap(m.First)]), bytes.Clone(m.Last[:cap(m.Last)]))
	}
	return out
}

func scribbleAll(v api.Version) {
	scribble(v.State)
	for i, m := range v.Runs[:cap(v.Runs)] {
		scribble(m.First)
		scribble(m.Last)
		v.Runs[:cap(v.Runs)][i] = api.RunMeta{Num: -1}
	}
}

// 10.11
func TestWhatIsHandedInIsNeitherChangedNorKept(t *testing.T) {
	r := rand.New(rand.NewSource(1011))
	for range 300 {
		v := draw(r)
		v.Gen = 1
		in := deep(v)
		was, runs := wholes(in), slices.Clone(in.Runs[:cap(in.Runs)])
		d := load(t, 1<<16, file("RUN-7", nil), file("RUN-99", nil))
		mustErr(t, "Check", manifest.Check(in), api.OK)
		b := encode(t, in)
		mustErr(t, "Swap", manifest.Swap(d, "", in), api.OK)
		if _, err := manifest.Sweep(d, "", in); err != api.OK {
			t.Fatalf("Sweep: %d", err)
		}
		if !slices.EqualFunc(wholes(in), was, bytes.Equal) || !slices.EqualFunc(in.Runs[:cap(in.Runs)], runs, sameRun) {
			t.Fatal("a version that was handed in is changed")
		}
		scribbleAll(in)
		p := partsOf(v)
		if !bytes.Equal(b, p.bytes()) {
			t.Fatal("Encode answers memory that was handed in")
		}
		mustLoad(t, "the version was written over", d, "", v)

		handed := roomy(b)
		whole := bytes.Clone(handed[:cap(handed)])
		back, err := manifest.Decode(handed)
		if err != api.OK || !bytes.Equal(handed[:cap(handed)], whole) {
			t.Fatalf("Decode: %d, or it changed what it was handed", err)
		}
		scribble(handed)
		if !same(back, v) {
			t.Fatal("Decode answers memory that was handed in")
		}
	}
}

// borrowed is a text over bytes that may yet change.
func borrowed(b []byte) string { return unsafe.String(unsafe.SliceData(b), len(b)) }

// 10.11
func TestPrefixesAreNotKept(t *testing.T) {
	d := load(t, 1<<12, file("t0.RUN-5", nil))
	prefix := []byte("t0.")
	name := manifest.RunName(borrowed(prefix), 5)
	mustErr(t, "Swap", manifest.Swap(d, borrowed(prefix), small()), api.OK)
	gone, err := manifest.Sweep(d, borrowed(prefix), small())
	mustErr(t, "Sweep", err, api.OK)
	scribble(prefix)
	if name != "t0.RUN-5" || !slices.Equal(gone, []string{"t0.RUN-5"}) || !slices.Equal(d.List(""), []string{"t0.MANIFEST"}) {
		t.Errorf("%q, %q, %q", name, gone, d.List(""))
	}
}

// lists: of each list of bytes of a version, its place.
func lists(v *api.Version) []*[]byte {
	out := []*[]byte{&v.State}
	for i := range v.Runs {
		out = append(out, &v.Runs[i].First, &v.Runs[i].Last)
	}
	return out
}

// mustBeNew: written over one by one, the lists of an answer are not one another's, nor the twin's.
func mustBeNew(t testing.TB, what string, v, twin, want api.Version) {
	t.Helper()
	right := lists(&want)
	for i, l := range lists(&v) {
		scribble(*l)
		*l = bytes.Clone(*right[i])
		if !same(v, want) || !same(twin, want) {
			t.Fatalf("%s: list %d is shared", what, i)
		}
	}
	clear(v.Runs[:cap(v.Runs)])
	if !same(twin, want) {
		t.Fatalf("%s: the runs are shared", what)
	}
}

// 10.11
func TestAnswersAreNewMemory(t *testing.T) {
	r := rand.New(rand.NewSource(1012))
	for i := range 200 {
		v := draw(r)
		if i == 0 {
			v = full()
		}
		b := encode(t, v)
		scribble(encode(t, v))
		if again := encode(t, v); !bytes.Equal(again, b) {
			t.Fatal("two answers of Encode share memory")
		}
		one, _ := manifest.Decode(b)
		two, _ := manifest.Decode(b)
		mustBeNew(t, "Decode", one, two, v)
		d := load(t, 1<<16, file("MANIFEST", b))
		one, _, _ = manifest.Load(d, "")
		two, _, _ = manifest.Load(d, "")
		mustBeNew(t, "Load", one, two, v)
		mustLoad(t, "it was written over", d, "", v)
	}
}

// 10.11: whatever bytes come, Decode ends, and what it takes is a version.
func TestWhateverBytesCome(t *testing.T) {
	r := rand.New(rand.NewSource(1013))
	for i := range 60000 {
		body := make([]byte, r.Intn(40))
		for i := range body {
			body[i] = byte(r.Intn(256) >> r.Intn(9))
		}
		b := slices.Concat([]byte("STRATA-M"), frame(body))
		if i%3 == 0 {
			b = b[:r.Intn(len(b)+1)]
		}
		v, err := manifest.Decode(b)
		if err != api.OK {
			mustRefuse(t, "drawn bytes", b)
		} else if again := encode(t, v); !bytes.Equal(again, b) {
			t.Fatalf("%x is taken, and written as %x", b, again)
		}
	}
	for _, n := range []int{0, 8, 1 << 20, 1<<20 + 1, 1 << 24} {
		mustRefuse(t, "zeros", make([]byte, n))
		mustRefuse(t, "a beginning and zeros", append([]byte("STRATA-M"), make([]byte, n)...))
		mustRefuse(t, "a frame of zeros", append([]byte("STRATA-M"), frame(make([]byte, n))...))
	}
}

// 10.11: whatever values come, every call ends, and a refused one changes nothing.
func TestWhateverValuesCome(t *testing.T) {
	r := rand.New(rand.NewSource(1014))
	wild := []int{math.MinInt, -1, 0, 1, 2, 64, 1 << 24, 1 << 40, math.MaxInt}
	pick := func() int { return wild[r.Intn(len(wild))] }
	prefixes := []string{"", "t0.", "\xff", "a b", strings.Repeat("p", 32), strings.Repeat("p", 33), strings.Repeat("é", 4000)}
	for range 20000 {
		v := api.Version{Gen: pick(), Flushed: pick(), Next: pick(), Low: pick(), Clock: pick(), State: make([]byte, r.Intn(2)*r.Intn(200000))}
		for range r.Intn(3) * r.Intn(40) {
			v.Runs = append(v.Runs, api.RunMeta{Num: pick(), Count: pick(), Index: pick(), Low: pick(), Clock: pick(), Bytes: pick(), First: letters(r, r.Intn(30)), Last: drawKey(r)})
		}
		prefix := prefixes[r.Intn(len(prefixes))]
		d, _ := disk.New(r.Intn(100))
		d.Create("t0.RUN-1")
		d.Arm(r.Intn(5))
		was := d.Files()
		b, err := manifest.Encode(v)
		if (err == api.OK) != mayBe(v) || (len(b) > 0) != (err == api.OK) || manifest.Check(v) != err {
			t.Fatalf("%+v: %d bytes, %d", v, len(b), err)
		}
		if err := manifest.Swap(d, prefix, v); err != api.OK && err != api.ErrDown && err != api.ErrFull && !sameFiles(d.Files(), was) {
			t.Fatalf("Swap: %d, and %+v", err, d.Files())
		}
		manifest.Load(d, prefix)
		manifest.Sweep(d, prefix, v)
		manifest.RunName(prefix, pick())
	}
}
