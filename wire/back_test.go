package wire_test

import (
	"bytes"
	"math"
	"math/rand"
	"testing"

	"strata/api"
	"strata/wire"
)

// surrounds: what stands ahead of, and behind, what was written.
var surrounds = [][2]string{{"", ""}, {"\xff", "\x00"}, {"\x00\x80", "\xff\xff"}, {"abc", "\x80\x01\x00\x01"}}

// 1.7
func TestWhatIsWrittenIsReadBack(t *testing.T) {
	for _, s := range surrounds {
		ahead, behind := []byte(s[0]), []byte(s[1])
		lay := func(b []byte) ([]byte, int, int) {
			return join(ahead, b, behind), len(ahead), len(ahead) + len(b)
		}
		for _, v := range someNumbers() {
			b, at, want := lay(wire.Uint(v))
			if got, end, err := wire.ReadUint(b, at); got != v || end != want || err != api.OK {
				t.Fatalf("ReadUint(% x, %d) = %d, %d, %d, want %d", b, at, got, end, err, v)
			}
			if v <= math.MaxInt {
				fixedBack(t, int(v), lay)
			}
		}
		for _, x := range append(someStrings(), bytes.Repeat([]byte{0, 'x'}, 200)) {
			stringBack(t, x, lay)
		}
	}
}

func fixedBack(t *testing.T, n int, lay func([]byte) ([]byte, int, int)) {
	t.Helper()
	up, _ := wire.Rising(n)
	b, at, want := lay(up)
	if got, end, err := wire.ReadRising(b, at); got != n || end != want || err != api.OK {
		t.Fatalf("ReadRising(% x, %d) = %d, %d, %d, want %d", b, at, got, end, err, n)
	}
	down, _ := wire.Falling(n)
	b, at, want = lay(down)
	if got, end, err := wire.ReadFalling(b, at); got != n || end != want || err != api.OK {
		t.Fatalf("ReadFalling(% x, %d) = %d, %d, %d, want %d", b, at, got, end, err, n)
	}
}

func stringBack(t *testing.T, x []byte, lay func([]byte) ([]byte, int, int)) {
	t.Helper()
	b, at, want := lay(wire.Bytes(x))
	if got, end, err := wire.ReadBytes(b, at, len(x)); !bytes.Equal(got, x) || end != want || err != api.OK {
		t.Fatalf("ReadBytes(% x, %d) = % x, %d, %d, want % x", b, at, got, end, err, x)
	}
	b, at, want = lay(wire.Ordered(x))
	if got, end, err := wire.ReadOrdered(b, at); !bytes.Equal(got, x) || end != want || err != api.OK {
		t.Fatalf("ReadOrdered(% x, %d) = % x, %d, %d, want % x", b, at, got, end, err, x)
	}
	b, at, want = lay(frame(t, x))
	if got, end, err := wire.ReadFrame(b, at); !bytes.Equal(got, x) || end != want || err != api.OK {
		t.Fatalf("ReadFrame(% x, %d) = % x, %d, %d, want % x", b, at, got, end, err, x)
	}
}

// fewLetters: bytes that are often read with success, and often just not.
func fewLetters(r *rand.Rand, n int) []byte {
	letters := []byte{0, 0, 1, 1, 2, 0x7f, 0x80, 0x81, 0xff, 0xff}
	b := make([]byte, n)
	for i := range b {
		b[i] = letters[r.Intn(len(letters))]
	}
	return b
}

// 1.7, the other way round: what a Read reads, the writer writes just so.
func TestWhatIsReadIsWrittenSo(t *testing.T) {
	r := rand.New(rand.NewSource(17))
	read := map[string]int{}
	same := func(what string, written, b []byte, at, end int) {
		t.Helper()
		read[what]++
		if !bytes.Equal(written, b[at:end]) {
			t.Fatalf("%s: % x was read, % x is written", what, b[at:end], written)
		}
	}
	for range 60000 {
		b := fewLetters(r, r.Intn(24))
		at := r.Intn(len(b) + 1)
		if v, end, err := wire.ReadUint(b, at); err == api.OK {
			same("Uint", wire.Uint(v), b, at, end)
		}
		if s, end, err := wire.ReadBytes(b, at, 30); err == api.OK {
			same("Bytes", wire.Bytes(s), b, at, end)
		}
		if s, end, err := wire.ReadOrdered(b, at); err == api.OK {
			same("Ordered", wire.Ordered(s), b, at, end)
		}
		if n, end, err := wire.ReadRising(b, at); err == api.OK {
			w, _ := wire.Rising(n)
			same("Rising", w, b, at, end)
		}
		if n, end, err := wire.ReadFalling(b, at); err == api.OK {
			w, _ := wire.Falling(n)
			same("Falling", w, b, at, end)
		}
		f := join(b[:at], frame(t, b[at:]), b)
		if s, end, err := wire.ReadFrame(f, at); err == api.OK {
			same("Frame", frame(t, s), f, at, end)
		}
	}
	for _, what := range []string{"Uint", "Bytes", "Ordered", "Rising", "Falling", "Frame"} {
		if read[what] < 1000 {
			t.Errorf("%s was read %d times alone", what, read[what])
		}
	}
}
