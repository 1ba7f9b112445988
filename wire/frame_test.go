package wire_test

import (
	"bytes"
	"hash/crc32"
	"math"
	"math/rand"
	"strings"
	"testing"

	"strata/api"
	"strata/wire"
)

func frame(t *testing.T, body []byte) []byte {
	t.Helper()
	f, err := wire.Frame(body)
	if err != api.OK {
		t.Fatalf("Frame of %d bytes: %d", len(body), err)
	}
	return f
}

func lowFirst(sum uint32) []byte {
	return []byte{byte(sum), byte(sum >> 8), byte(sum >> 16), byte(sum >> 24)}
}

// head is a right head of a frame with that length.
func head(length uint32) []byte {
	b := []byte{byte(length >> 24), byte(length >> 16), byte(length >> 8), byte(length)}
	return append(b, lowFirst(wire.Sum(b))...)
}

func turn(b []byte, bits ...int) []byte {
	b = bytes.Clone(b)
	for _, i := range bits {
		b[i/8] ^= 1 << (i % 8)
	}
	return b
}

func mustBeSum(t *testing.T, b []byte, at int, what string) {
	t.Helper()
	if body, end, err := wire.ReadFrame(b, at); len(body) != 0 || end != 0 || err != api.ErrSum {
		t.Fatalf("%s: %d bytes, %d, %d, want ErrSum", what, len(body), end, err)
	}
}

// 1.5
func TestSum(t *testing.T) {
	if got := wire.Sum([]byte("123456789")); got != 0xe3069283 {
		t.Errorf("Sum(123456789) = %x", got)
	}
	if got := wire.Sum(); got != 0 {
		t.Errorf("Sum of nothing = %x", got)
	}
	if got := wire.Sum(nil, []byte{}); got != 0 {
		t.Errorf("Sum of empty parts = %x", got)
	}
	castagnoli := crc32.MakeTable(crc32.Castagnoli)
	for c := range 256 {
		b := []byte{byte(c)}
		if got, want := wire.Sum(b), crc32.Checksum(b, castagnoli); got != want {
			t.Errorf("Sum(%x) = %x, want %x", c, got, want)
		}
	}
	r := rand.New(rand.NewSource(15))
	for n := range 300 {
		b := randomBytes(r, n)
		if got, want := wire.Sum(b), crc32.Checksum(b, castagnoli); got != want {
			t.Errorf("Sum of %d bytes = %x, want %x", n, got, want)
		}
	}
}

// 1.11
func TestSumOfPartsIsThatOfThemJoined(t *testing.T) {
	if got := wire.Sum([]byte("1234"), []byte("56789")); got != 0xe3069283 {
		t.Errorf("Sum(1234, 56789) = %x", got)
	}
	r := rand.New(rand.NewSource(111))
	for range 500 {
		var parts [][]byte
		for range r.Intn(6) {
			parts = append(parts, randomBytes(r, r.Intn(9)))
		}
		if got, want := wire.Sum(parts...), wire.Sum(join(parts...)); got != want {
			t.Fatalf("Sum(%x) = %x, joined %x", parts, got, want)
		}
	}
	whole := randomBytes(r, 40)
	for i := range len(whole) + 1 {
		if wire.Sum(whole[:i], nil, whole[i:]) != wire.Sum(whole) {
			t.Errorf("Sum of it split at %d is another", i)
		}
	}
}

// 1.6
func TestFrameIsWritten(t *testing.T) {
	if f := frame(t, nil); !bytes.Equal(f, unhex(t, "00 00 00 00 c7 4b 67 48 00 00 00 00")) {
		t.Errorf("Frame of nothing = % x", f)
	}
	body := []byte("123456789")
	want := join(head(9), body, unhex(t, "83 92 06 e3"))
	if f := frame(t, body); !bytes.Equal(f, want) {
		t.Errorf("Frame(123456789) = % x, want % x", f, want)
	}
	long := bytes.Repeat([]byte{7}, 0x010203)
	if f := frame(t, long); !bytes.Equal(f[:4], unhex(t, "00 01 02 03")) {
		t.Errorf("the length is written as % x", f[:4])
	}
}

// 1.6
func TestFrameAtItsBound(t *testing.T) {
	most := bytes.Repeat([]byte{0xa5}, api.MaxFrame)
	f := frame(t, most)
	if len(f) != api.MaxFrame+12 {
		t.Errorf("the greatest frame has %d bytes", len(f))
	}
	if b, end, err := wire.ReadFrame(f, 0); !bytes.Equal(b, most) || end != len(f) || err != api.OK {
		t.Errorf("the greatest frame is read as %d bytes, %d, %d", len(b), end, err)
	}
	if f, err := wire.Frame(append(most, 0)); len(f) != 0 || err != api.ErrLong {
		t.Errorf("one byte more: %d bytes, %d", len(f), err)
	}
}

// 1.6
func TestReadFrameRefuses(t *testing.T) {
	f := frame(t, []byte("abc"))
	wrongHead := turn(f, 32)
	wrongBody := turn(f, 64)
	room := make([]byte, api.MaxFrame+20)
	for _, x := range []struct {
		what string
		b    []byte
		at   int
		want api.Errno
	}{
		{"no byte", nil, 0, api.ErrTorn},
		{"at the end", f, len(f), api.ErrTorn},
		{"behind the end", f, len(f) + 1, api.ErrArg},
		{"far behind the end", f, math.MaxInt, api.ErrArg},
		{"below 0", f, -1, api.ErrArg},
		{"far below 0", f, math.MinInt, api.ErrArg},
		{"seven bytes of a wrong head", wrongHead[:7], 0, api.ErrTorn},
		{"a wrong head alone", wrongHead[:8], 0, api.ErrSum},
		{"a head with another's sum", unhex(t, "00 00 00 01 c7 4b 67 48"), 0, api.ErrSum},
		{"a wrong head whose length is too great", turn(head(1<<31), 32), 0, api.ErrSum},
		{"a length too great, cut off", head(api.MaxFrame + 1), 0, api.ErrBig},
		{"a length too great, with all its bytes", join(head(api.MaxFrame+1), room), 0, api.ErrBig},
		{"the greatest length of all", head(1<<32 - 1), 0, api.ErrBig},
		{"a head alone", f[:8], 0, api.ErrTorn},
		{"the greatest right length, cut off", head(api.MaxFrame), 0, api.ErrTorn},
		{"a wrong body, cut off", wrongBody[:len(f)-1], 0, api.ErrTorn},
		{"a wrong body", wrongBody, 0, api.ErrSum},
		{"a wrong sum", turn(f, 8*len(f)-1), 0, api.ErrSum},
		{"the sum highest first", join(f[:11], []byte{f[14], f[13], f[12], f[11]}), 0, api.ErrSum},
	} {
		b, end, err := wire.ReadFrame(x.b, x.at)
		if len(b) != 0 || end != 0 || err != x.want {
			t.Errorf("%s: %d bytes, %d, %d, want %d", x.what, len(b), end, err, x.want)
		}
	}
}

// 1.10
func TestFewBitsTurnedAreTold(t *testing.T) {
	f := frame(t, []byte("\x00ab\xff"))
	whole := 8 * len(f)
	behind := join(f, bytes.Repeat([]byte{0x5a}, 40))
	for i := range whole {
		mustBeSum(t, turn(f, i), 0, "one bit")
		mustBeSum(t, turn(behind, i), 0, "one bit, more behind")
		for k := i + 1; k < whole; k++ {
			mustBeSum(t, turn(f, i, k), 0, "two bits")
			for m := k + 1; m < whole; m++ {
				mustBeSum(t, turn(behind, i, k, m), 0, "three bits")
			}
		}
	}
}

// 1.10
func TestFewBitsTurnedInALongFrameAreTold(t *testing.T) {
	r := rand.New(rand.NewSource(110))
	f := frame(t, randomBytes(r, 5000))
	b := join([]byte("ahead"), f, []byte("behind"))
	for range 2000 {
		p := r.Perm(8 * len(f))[:1+r.Intn(3)]
		for i := range p {
			p[i] += 8 * len("ahead")
		}
		mustBeSum(t, turn(b, p...), len("ahead"), "few bits of a long frame")
	}
}

// burst turns bits over that lie within 32 that follow one another, of those from from to to.
func burst(r *rand.Rand, from, to int) []int {
	start := from + r.Intn(to-from)
	bits := []int{start}
	for i := start + 1; i < min(start+32, to); i++ {
		if r.Intn(2) == 1 {
			bits = append(bits, i)
		}
	}
	return bits
}

// 1.10
func TestBurstsAreTold(t *testing.T) {
	r := rand.New(rand.NewSource(1100))
	for _, n := range []int{0, 1, 4, 77} {
		f := frame(t, randomBytes(r, n))
		whole := 8 * len(f)
		long := join(f, bytes.Repeat([]byte{0xff}, 50))
		for i := range 64 {
			mustBeSum(t, turn(long, span(i, min(i+32, 64))...), 0, "all bits of a span of the head")
		}
		for i := 64; i < whole; i++ {
			mustBeSum(t, turn(long, span(i, min(i+32, whole))...), 0, "all bits of a span of the body")
		}
		for range 3000 {
			mustBeSum(t, turn(long, burst(r, 0, 64)...), 0, "a burst in the head")
			mustBeSum(t, turn(long, burst(r, 64, whole)...), 0, "a burst in the body")
		}
	}
}

func span(from, to int) []int {
	var l []int
	for i := from; i < to; i++ {
		l = append(l, i)
	}
	return l
}

// 1.9
func TestACutIsACut(t *testing.T) {
	cut := func(what string, b []byte, read func([]byte) (int, api.Errno)) {
		t.Helper()
		for n := range b {
			if end, err := read(b[:n]); end != 0 || err != api.ErrTorn {
				t.Fatalf("%s: %d of % x: %d, %d, want ErrTorn", what, n, b, end, err)
			}
			// A cut must not be filled up from the spare room behind it, nor hang on where it stands.
			if end, err := read(bytes.Clone(b[:n])); end != 0 || err != api.ErrTorn {
				t.Fatalf("%s: %d of % x, alone: %d, %d, want ErrTorn", what, n, b, end, err)
			}
		}
	}
	for _, v := range someNumbers() {
		cut("Uint", wire.Uint(v), func(b []byte) (int, api.Errno) { _, end, err := wire.ReadUint(b, 0); return end, err })
		if v > math.MaxInt {
			continue
		}
		up, _ := wire.Rising(int(v))
		cut("Rising", up, func(b []byte) (int, api.Errno) { _, end, err := wire.ReadRising(b, 0); return end, err })
		down, _ := wire.Falling(int(v))
		cut("Falling", down, func(b []byte) (int, api.Errno) { _, end, err := wire.ReadFalling(b, 0); return end, err })
	}
	l := append(someStrings(), []byte(strings.Repeat("x\x00", 150)))
	for _, s := range l {
		for _, most := range []int{len(s), math.MaxInt} {
			cut("Bytes", wire.Bytes(s), func(b []byte) (int, api.Errno) { _, end, err := wire.ReadBytes(b, 0, most); return end, err })
		}
		cut("Ordered", wire.Ordered(s), func(b []byte) (int, api.Errno) { _, end, err := wire.ReadOrdered(b, 0); return end, err })
		cut("Frame", frame(t, s), func(b []byte) (int, api.Errno) { _, end, err := wire.ReadFrame(b, 0); return end, err })
	}
}
