package bloom_test

import (
	"bytes"
	"encoding/binary"
	"math/bits"
	"math/rand"
	"testing"

	"strata/api"
	"strata/bloom"
)

// headed is bytes with this head, and so many bytes behind it.
func headed(letter byte, p int, m uint32, n int) []byte {
	return append(binary.BigEndian.AppendUint32([]byte{letter, byte(p)}, m), make([]byte, n)...)
}

// wrong are bytes that are no filters, each by one thing alone where that can be.
func wrong() [][]byte {
	f := headed('B', 7, 64, 8)
	l := [][]byte{nil, {}, headed('B', 7, 64, 9), headed('B', 7, 72, 8), headed('B', 7, 72, 10), headed('B', 7, 64, 4096)}
	for n := range f {
		l = append(l, f[:n])
	}
	for _, c := range []byte{0, 'A', 'C', 'b', 0xc2, 255} {
		l = append(l, headed(c, 7, 64, 8))
	}
	for _, p := range []int{0, 15, 16, 128, 255} {
		l = append(l, headed('B', p, 64, 8))
	}
	for _, m := range []uint32{0, 1, 7, 8, 16, 48, 56, 57, 60, 63, 65, 66, 68, 71, 73, 79, 1001} {
		l = append(l, headed('B', 7, m, int(m/8)), headed('B', 7, m, int(m+7)/8))
	}
	for _, m := range []uint32{20971520 + 1, 20971520 + 7, 20971520 + 8, 20971520 + 16, 1 << 25} {
		l = append(l, headed('B', 7, m, int(m/8)))
	}
	for _, m := range []uint32{1<<31 + 64, 1<<32 - 8, 1<<32 - 1, 0x40000000, 1<<24 + 64} {
		l = append(l, headed('B', 7, m, 8))
	}
	return l
}

// 6.2, 6.3, 6.4, 6.5
func TestWhatIsNoFilter(t *testing.T) {
	f := build(t, 10)
	for _, w := range wrong() {
		head := w[:min(len(w), 8)]
		if err := bloom.Check(w); err != api.ErrFilter {
			t.Errorf("Check(%x, %d bytes): %d, want ErrFilter", head, len(w), err)
		}
		if ok, err := bloom.Has(w, []byte("a")); ok || err != api.ErrFilter {
			t.Errorf("Has(%x, %d bytes): %v, %d, want ErrFilter", head, len(w), ok, err)
		}
		for i := 6; i < len(w); i++ {
			w[i] = 255
		}
		if n := bloom.Ones(w); n != 0 {
			t.Errorf("Ones(%x, %d bytes): %d", head, len(w), n)
		}
		for _, pair := range [][2][]byte{{w, f}, {f, w}, {w, w}, {w, headed('B', 3, 64, 8)}, {headed('B', 7, 72, 9), w}} {
			if u, err := bloom.Union(pair[0], pair[1]); len(u) != 0 || err != api.ErrFilter {
				t.Errorf("Union with %x, %d bytes: %x, %d, want ErrFilter", head, len(w), u, err)
			}
		}
	}
}

// 6.2: a filter is one whatever bits are set in it, and whatever it is made of.
func TestWhatIsAFilter(t *testing.T) {
	r := rand.New(rand.NewSource(62))
	for p := 1; p <= 14; p++ {
		for _, m := range []int{64, 72, 80, 128, 1000, 65536 + 8, 20971520 - 8, 20971520} {
			f := blank(p, m)
			if err := bloom.Check(f); err != api.OK {
				t.Errorf("Check(%x..): %d", f[:6], err)
			}
			r.Read(f[6:])
			if err := bloom.Check(f); err != api.OK {
				t.Errorf("Check(%x.., bits set): %d", f[:6], err)
			}
		}
	}
}

// 6.3
func TestTheExamplesOfHas(t *testing.T) {
	if has(t, build(t, 10), []byte("a")) || has(t, build(t, 10), nil) {
		t.Error("an empty filter has a key")
	}
	f := build(t, 10, list("a", "")...)
	if !has(t, f, nil) || !has(t, f, []byte{}) || !has(t, f, []byte("a")) || has(t, f, []byte("b")) {
		t.Error("a filter of a and the empty key")
	}
}

// 6.3: yes, if all places are set, of which each one counts.
func TestHasAsksForEveryPlace(t *testing.T) {
	r := rand.New(rand.NewSource(63))
	for range 3000 {
		p, m := 1+r.Intn(14), 8*(8+r.Intn(200))
		key := draw(r, 1)[0]
		at := places(key, p, m)
		f, full := blank(p, m), bytes.Repeat([]byte{255}, m/8)
		for _, i := range at {
			f[6+i/8] |= 1 << (7 - i%8)
		}
		if !has(t, f, key) || !has(t, append(blank(p, m)[:6], full...), key) {
			t.Fatalf("p %d, m %d: %x has not %x", p, m, f, key)
		}
		for _, i := range at {
			g := append(blank(p, m)[:6], full...)
			g[6+i/8] &^= 1 << (7 - i%8)
			if has(t, g, key) {
				t.Fatalf("p %d, m %d: %x is there without its bit %d", p, m, key, i)
			}
			g = bytes.Clone(f)
			g[6+i/8] &^= 1 << (7 - i%8)
			if has(t, g, key) {
				t.Fatalf("p %d, m %d: %x is there without its bit %d, alone", p, m, key, i)
			}
		}
	}
}

// 6.3: of any bits.
func TestHasOfAnyBits(t *testing.T) {
	r := rand.New(rand.NewSource(631))
	yes, no := 0, 0
	for range 8000 {
		p, m := 1+r.Intn(14), 8*(8+r.Intn(100))
		f := blank(p, m)
		for i := range f[6:] {
			f[6+i] = byte(r.Int() | r.Int() | r.Int())
		}
		key := draw(r, 1)[0]
		want := hasAll(f, places(key, p, m))
		if has(t, f, key) != want {
			t.Fatalf("%x and %x: %v", f, key, !want)
		}
		if want {
			yes++
		} else {
			no++
		}
	}
	if yes < 1000 || no < 1000 {
		t.Errorf("%d yes, %d no", yes, no)
	}
}

// What a filter is for: it mostly says no to other keys, the more so the more bits a key has.
func TestOthersAreMostlyNotThere(t *testing.T) {
	for _, w := range []struct{ bits, most int }{{1, 1600}, {4, 500}, {10, 60}, {20, 4}} {
		f := build(t, w.bits, rows(1000)...)
		n := 0
		for i := range 2000 {
			if has(t, f, binary.BigEndian.AppendUint32([]byte("other"), uint32(i))) {
				n++
			}
		}
		if n > w.most {
			t.Errorf("%d bits: %d of 2000 others are there", w.bits, n)
		}
	}
}

// 6.4
func TestTheExamplesOfUnion(t *testing.T) {
	u := union(t, build(t, 10, list("a")...), build(t, 10, list("b")...))
	if len(u) != 14 || !has(t, u, []byte("a")) || !has(t, u, []byte("b")) || has(t, u, []byte("c")) {
		t.Errorf("%x", u)
	}
	if u, err := bloom.Union(build(t, 10), build(t, 3)); len(u) != 0 || err != api.ErrShape {
		t.Errorf("%x, %d, want ErrShape", u, err)
	}
}

// 6.4: the same p and the same m, both.
func TestUnionWantsOneShape(t *testing.T) {
	for _, p := range []int{1, 2, 13, 14} {
		for _, q := range []int{1, 2, 13, 14} {
			for _, m := range []int{64, 72, 320, 65600} {
				for _, n := range []int{64, 72, 320, 65600} {
					u, err := bloom.Union(blank(p, m), blank(q, n))
					if p == q && m == n {
						if err != api.OK || !bytes.Equal(u, blank(p, m)) {
							t.Errorf("Union of %d, %d twice: %x, %d", p, m, u, err)
						}
					} else if len(u) != 0 || err != api.ErrShape {
						t.Errorf("Union of %d, %d and %d, %d: %x, %d, want ErrShape", p, m, q, n, u, err)
					}
				}
			}
		}
	}
}

// 6.4, 6.5, 6.7: of any bits.
func TestUnionOfAnyBits(t *testing.T) {
	r := rand.New(rand.NewSource(64))
	for round := range 1000 {
		per := 1 + round%20
		keys := draw(r, 1+r.Intn(40))
		a := build(t, per, keys...)
		b := bytes.Clone(a)
		for i := range b[6:] {
			b[6+i] = byte(r.Int() & r.Int())
		}
		u := union(t, a, b)
		if !bytes.Equal(u[:6], a[:6]) || len(u) != len(a) {
			t.Fatalf("%x of %x and %x", u, a, b)
		}
		n, ones := 0, 0
		for i := range u[6:] {
			if u[6+i] != a[6+i]|b[6+i] {
				t.Fatalf("byte %d: %x of %x and %x", 6+i, u, a, b)
			}
			n += bits.OnesCount8(u[6+i])
			ones += bits.OnesCount8(b[6+i])
		}
		if bloom.Ones(u) != n || bloom.Ones(b) != ones {
			t.Fatalf("Ones: %d and %d, want %d and %d", bloom.Ones(u), bloom.Ones(b), n, ones)
		}
		if !bytes.Equal(union(t, b, a), u) || !bytes.Equal(union(t, u, a), u) || !bytes.Equal(union(t, a, a), a) {
			t.Fatalf("the other way round, once more, or with itself: %x and %x", a, b)
		}
		for _, k := range keys {
			if !has(t, a, k) || !has(t, u, k) {
				t.Fatalf("%x is not there", k)
			}
		}
	}
}

// 6.5
func TestTheExamplesOfOnes(t *testing.T) {
	if n := bloom.Ones(build(t, 1, list("a", "a")...)); n != 1 {
		t.Errorf("%d, want 1", n)
	}
	if n := bloom.Ones(build(t, 10)); n != 0 {
		t.Errorf("%d, want 0", n)
	}
	for i := range 72 {
		f := blank(7, 72)
		f[6+i/8] = 128 >> (i % 8)
		if n := bloom.Ones(f); n != 1 {
			t.Errorf("bit %d: %d, want 1", i, n)
		}
	}
	full := append(blank(14, 20971520)[:6], bytes.Repeat([]byte{255}, 20971520/8)...)
	if n := bloom.Ones(full); n != 20971520 {
		t.Errorf("%d, want 20971520", n)
	}
}

// 6.7
func TestNeverNoToWhatIsThere(t *testing.T) {
	r := rand.New(rand.NewSource(67))
	for round := range 400 {
		per, keys := 1+round%20, draw(r, r.Intn(300))
		f := build(t, per, keys...)
		other := bytes.Clone(f)
		r.Read(other[6:])
		u, v := union(t, f, other), union(t, other, f)
		for _, k := range keys {
			if !has(t, f, k) || !has(t, u, k) || !has(t, v, k) {
				t.Fatalf("Build(%d, %d keys) has not %x", per, len(keys), k)
			}
		}
	}
}

// 6.9
func TestUnionIsTheFilterOfBoth(t *testing.T) {
	r := rand.New(rand.NewSource(69))
	seen := 0
	for round := range 3000 {
		per := 1 + round%20
		keys := draw(r, 1+r.Intn(30))
		a, b := keys[:r.Intn(len(keys)+1)], keys[r.Intn(len(keys)):]
		f, g, both := build(t, per, a...), build(t, per, b...), build(t, per, append(a[:len(a):len(a)], b...)...)
		if !oneShape(f, g) || !oneShape(f, both) {
			continue
		}
		seen++
		if u := union(t, f, g); !bytes.Equal(u, both) {
			t.Fatalf("bits %d: of %x and %x: %x, want %x", per, a, b, u, both)
		}
	}
	if seen < 300 {
		t.Errorf("%d of one shape", seen)
	}
	// Of more than 64 bits there is one shape if the lists have many keys in common.
	keys := rows(403)
	f, g := build(t, 2, keys[:401]...), build(t, 2, keys[2:]...)
	both := build(t, 2, append(keys[:401:401], keys[2:]...)...)
	if !oneShape(f, both) || !bytes.Equal(union(t, f, g), both) {
		t.Errorf("%x, want %x", union(t, f, g), both)
	}
}
