package bloom_test

import (
	"bytes"
	"encoding/binary"
	"fmt"
	"hash/fnv"
	"math/big"
	"math/rand"
	"slices"
	"testing"

	"strata/api"
	"strata/bloom"
)

// The keys of each pair have one hash; that of the second pair is 0.
var sameHash = [][2]string{
	{"8yn0iYCKYHlIj4-BwPqk", "GReLUrM4wMqfg9yzV3KQ"},
	{"\xd5\x6b\xb9\x53\x42\x87\x08\x36", "\xd5\x6b\xb9\x53\x42\x87\x08\x36\x00"},
}

// placesA: the number of places a key, by the bits a key.
var placesA = [21]int{0, 1, 1, 2, 2, 3, 4, 4, 5, 6, 7, 7, 8, 9, 9, 10, 11, 11, 12, 13, 14}

func list(keys ...string) [][]byte {
	var l [][]byte
	for _, k := range keys {
		l = append(l, []byte(k))
	}
	return l
}

// rows are so many unlike keys.
func rows(n int) [][]byte {
	var l [][]byte
	for i := range n {
		l = append(l, fmt.Appendf(nil, "row %d", i))
	}
	return l
}

// draw is a list of keys, some of them there twice.
func draw(r *rand.Rand, n int) [][]byte {
	l := make([][]byte, n)
	for i := range l {
		switch {
		case i > 0 && r.Intn(6) == 0:
			l[i] = bytes.Clone(l[r.Intn(i)])
		case i > 0 && r.Intn(6) == 0:
			l[i] = append(bytes.Clone(l[r.Intn(i)]), byte(r.Intn(2)))
		default:
			l[i] = make([]byte, r.Intn(12))
			r.Read(l[i])
		}
	}
	return l
}

// unlike has each key once.
func unlike(keys [][]byte) [][]byte {
	l := slices.Clone(keys)
	slices.SortFunc(l, bytes.Compare)
	return slices.CompactFunc(l, bytes.Equal)
}

// places are a key's, in numbers that do not wrap round.
func places(key []byte, p, m int) []int {
	h := fnv.New64a()
	h.Write(key)
	two := new(big.Int).Lsh(big.NewInt(1), 32)
	x, y := new(big.Int).DivMod(new(big.Int).SetUint64(h.Sum64()), two, new(big.Int))
	y.SetBit(y, 0, 1)
	var l []int
	for j := range p {
		at := new(big.Int).Mul(big.NewInt(int64(j)), y)
		at.Add(at, x).Mod(at, two).Mod(at, big.NewInt(int64(m)))
		l = append(l, int(at.Int64()))
	}
	return l
}

// blank is bytes with this head and no bit set.
func blank(p, m int) []byte {
	b := binary.BigEndian.AppendUint32([]byte{0x42, byte(p)}, uint32(m))
	return append(b, make([]byte, m/8)...)
}

// laid is the filter as the chapter lays it.
func laid(bits int, keys [][]byte) []byte {
	l := unlike(keys)
	m := len(l) * bits
	for m%8 != 0 || m < 64 {
		m++
	}
	b := blank(placesA[bits], m)
	for _, k := range l {
		for _, i := range places(k, placesA[bits], m) {
			b[6+i/8] |= []byte{0x80, 0x40, 0x20, 0x10, 0x08, 0x04, 0x02, 0x01}[i%8]
		}
	}
	return b
}

func build(t *testing.T, bits int, keys ...[]byte) []byte {
	t.Helper()
	f, err := bloom.Build(bits, keys...)
	if err != api.OK {
		t.Fatalf("Build(%d, %d keys): %d", bits, len(keys), err)
	}
	return f
}

func union(t *testing.T, a, b []byte) []byte {
	t.Helper()
	f, err := bloom.Union(a, b)
	if err != api.OK {
		t.Fatalf("Union: %d", err)
	}
	return f
}

func has(t *testing.T, filter, key []byte) bool {
	t.Helper()
	ok, err := bloom.Has(filter, key)
	if err != api.OK {
		t.Fatalf("Has: %d", err)
	}
	return ok
}

func isSet(filter []byte, i int) bool { return filter[6+i/8]<<(i%8)&0x80 != 0 }

func hasAll(filter []byte, at []int) bool {
	for _, i := range at {
		if !isSet(filter, i) {
			return false
		}
	}
	return true
}

// within tells whether all bits of a are set in b.
func within(a, b []byte) bool {
	for i := range a[6:] {
		if a[6+i]&^b[6+i] != 0 {
			return false
		}
	}
	return true
}

func oneShape(a, b []byte) bool { return bytes.Equal(a[:6], b[:6]) }
