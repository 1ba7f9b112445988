package bloom_test

import (
	"bytes"
	"encoding/hex"
	"math"
	"math/rand"
	"slices"
	"testing"

	"strata/api"
	"strata/bloom"
)

// 6.1
func TestTheExamplesOfBuild(t *testing.T) {
	for _, w := range []struct {
		got  []byte
		want string
	}{
		{build(t, 10), "4207000000400000000000000000"},
		{build(t, 1, list("a")...), "4201000000400008000000000000"},
		{build(t, 1, list("a", "a")...), "4201000000400008000000000000"},
	} {
		if got := hex.EncodeToString(w.got); got != w.want {
			t.Errorf("%s, want %s", got, w.want)
		}
	}
}

// 6.1: wrong numbers of bits, with few keys and with too many.
func TestBuildTakesOneToTwentyBits(t *testing.T) {
	many := make([][]byte, api.MaxKeys+1)
	for _, n := range []int{0, 21, -1, 22, 64, 255, 256, 257, 266, 1<<32 + 10, -10, math.MinInt, math.MaxInt} {
		for _, keys := range [][][]byte{nil, list("a"), many} {
			if f, err := bloom.Build(n, keys...); len(f) != 0 || err != api.ErrBits {
				t.Errorf("Build(%d, %d keys): %x, %d, want ErrBits", n, len(keys), f, err)
			}
		}
	}
	for n := 1; n <= 20; n++ {
		if got, want := build(t, n, list("a", "")...), laid(n, list("a", "")); !bytes.Equal(got, want) {
			t.Errorf("Build(%d): %x, want %x", n, got, want)
		}
	}
}

// 6.1: so many keys and no more; doubles are counted here, though not for the number of bits.
func TestBuildTakesSoManyKeys(t *testing.T) {
	twice := slices.Repeat(list("a", "b"), api.MaxKeys/2)
	if f := build(t, 10, twice...); !bytes.Equal(f, build(t, 10, list("a", "b")...)) {
		t.Errorf("of two keys, again and again: %d bytes", len(f))
	}
	for _, bits := range []int{1, 20} {
		if f, err := bloom.Build(bits, append(twice, []byte("a"))...); len(f) != 0 || err != api.ErrKeys {
			t.Errorf("Build(%d, one too many): %d bytes, %d, want ErrKeys", bits, len(f), err)
		}
	}
}

// 6.1, 6.2, 6.7: the greatest filter is one.
func TestTheGreatestFilter(t *testing.T) {
	keys := make([][]byte, api.MaxKeys)
	for i := range keys {
		keys[i] = []byte{byte(i >> 16), byte(i >> 8), byte(i)}
	}
	f := build(t, 20, keys...)
	if head := hex.EncodeToString(f[:6]); len(f) != 6+20971520/8 || head != "420e01400000" || bloom.Check(f) != api.OK {
		t.Fatalf("%d bytes, %s, %d", len(f), head, bloom.Check(f))
	}
	for i := 0; i < len(keys); i += 97 {
		if !has(t, f, keys[i]) || !hasAll(f, places(keys[i], 14, 20971520)) {
			t.Fatalf("%x is not there", keys[i])
		}
	}
}

// The bytes: how many bits there are, about the multiples of 8 and about 64.
func TestHowManyBits(t *testing.T) {
	for bits := 1; bits <= 20; bits++ {
		for n := range 90 {
			if got, want := build(t, bits, rows(n)...), laid(bits, rows(n)); !bytes.Equal(got, want) {
				t.Fatalf("Build(%d, %d keys): %x, want %x", bits, n, got, want)
			}
		}
	}
}

// 6.1: of keys of any bytes, the empty one too, some of them there twice.
func TestBuildIsAsTheChapterLaysIt(t *testing.T) {
	r := rand.New(rand.NewSource(61))
	for round := range 600 {
		bits, keys := 1+round%20, draw(r, r.Intn(200))
		if got, want := build(t, bits, keys...), laid(bits, keys); !bytes.Equal(got, want) {
			t.Fatalf("Build(%d, %x): %x, want %x", bits, keys, got, want)
		}
	}
	long := bytes.Repeat([]byte{0, 255, 1}, 100000)
	keys := [][]byte{long, long[:len(long)-1], long[1:], {}, {0}, {0, 0}, {255}}
	if got, want := build(t, 13, keys...), laid(13, keys); !bytes.Equal(got, want) {
		t.Errorf("of long keys: %x, want %x", got, want)
	}
}

// 6.1: keys are unlike if their bytes are, whatever their hashes are.
func TestUnlikeKeysOfOneHash(t *testing.T) {
	for _, pair := range sameHash {
		keys := append(rows(6), list(pair[0], pair[1])...)
		f := build(t, 10, keys...)
		if len(f) != 6+10 || !bytes.Equal(f, laid(10, keys)) {
			t.Errorf("%q: %x, want %x", pair, f, laid(10, keys))
		}
		if one := build(t, 10, list(pair[0])...); !has(t, one, []byte(pair[1])) {
			t.Errorf("%q has not %q", pair[0], pair[1])
		}
	}
}

// 6.8
func TestTheSetOfTheKeysAlone(t *testing.T) {
	r := rand.New(rand.NewSource(68))
	for round := range 300 {
		bits, keys := 1+round%20, draw(r, 1+r.Intn(60))
		f := build(t, bits, keys...)
		other := append(slices.Clone(keys), keys[r.Intn(len(keys))], keys[r.Intn(len(keys))])
		r.Shuffle(len(other), func(i, j int) { other[i], other[j] = other[j], other[i] })
		if g := build(t, bits, other...); !bytes.Equal(f, g) {
			t.Fatalf("in another order, and doubled: %x, want %x", g, f)
		}
		if n, most := bloom.Ones(f), placesA[bits]*len(unlike(keys)); n > most || n < 1 {
			t.Fatalf("%d ones of %d keys with %d bits, at most %d", n, len(keys), bits, most)
		}
	}
}

// 6.8
func TestMoreKeysMoreBits(t *testing.T) {
	r := rand.New(rand.NewSource(681))
	seen := 0
	for round := range 2000 {
		bits, keys := 1+round%20, draw(r, 1+r.Intn(40))
		f := build(t, bits, keys...)
		for n := range keys {
			if g := build(t, bits, keys[:n]...); oneShape(f, g) {
				seen++
				if !within(g, f) || bloom.Ones(g) > bloom.Ones(f) {
					t.Fatalf("bits %d: of %d keys %x, of %d %x", bits, len(keys), f, n, g)
				}
			}
		}
	}
	if seen < 2000 {
		t.Errorf("%d of one shape", seen)
	}
}
