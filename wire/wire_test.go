package wire_test

import (
	"bytes"
	"encoding/hex"
	"math"
	"math/rand"
	"slices"
	"strings"
	"testing"

	"strata/api"
	"strata/wire"
)

var nineFull = strings.Repeat("ff ", 9)

func unhex(t *testing.T, s string) []byte {
	t.Helper()
	b, err := hex.DecodeString(strings.ReplaceAll(s, " ", ""))
	if err != nil {
		t.Fatal(err)
	}
	return b
}

// join lays parts behind one another, in memory of its own.
func join(parts ...[]byte) []byte { return slices.Concat(parts...) }

// someNumbers: every power of two with its neighbours, and the edges.
func someNumbers() []uint64 {
	l := []uint64{0, 300, math.MaxUint64}
	for i := range 64 {
		p := uint64(1) << i
		l = append(l, p-1, p, p+1)
	}
	return l
}

// someStrings: every string of up to three letters out of those at which Ordered has edges.
func someStrings() [][]byte {
	letters := []byte{0, 1, 2, 'a', 0xfe, 0xff}
	l := [][]byte{nil}
	for from, length := 0, 0; length < 3; length++ {
		to := len(l)
		for _, s := range l[from:to] {
			for _, c := range letters {
				l = append(l, join(s, []byte{c}))
			}
		}
		from = to
	}
	return l
}

func randomBytes(r *rand.Rand, n int) []byte {
	b := make([]byte, n)
	r.Read(b)
	return b
}

// 1.1
func TestUintIsWritten(t *testing.T) {
	for _, x := range []struct {
		v    uint64
		want string
	}{
		{0, "00"},
		{1, "01"},
		{127, "7f"},
		{128, "80 01"},
		{300, "ac 02"},
		{1<<14 - 1, "ff 7f"},
		{1 << 14, "80 80 01"},
		{1<<63 - 1, strings.Repeat("ff", 8) + "7f"},
		{1 << 63, strings.Repeat("80", 9) + "01"},
		{math.MaxUint64, nineFull + "01"},
	} {
		if got := wire.Uint(x.v); !bytes.Equal(got, unhex(t, x.want)) {
			t.Errorf("Uint(%d) = % x, want %s", x.v, got, x.want)
		}
	}
}

// 1.1
func TestReadUintRefuses(t *testing.T) {
	for _, x := range []struct {
		b    string
		at   int
		want api.Errno
	}{
		{"", 0, api.ErrTorn},
		{"80", 0, api.ErrTorn},
		{"ac 02", 2, api.ErrTorn},
		{nineFull, 0, api.ErrTorn},
		{"80 80 80", 1, api.ErrTorn},
		{"80 00", 0, api.ErrForm},
		{"ff 80 00", 0, api.ErrForm},
		{nineFull + "00", 0, api.ErrForm},
		{nineFull + "02", 0, api.ErrBig},
		{nineFull + "7f", 0, api.ErrBig},
		{nineFull + "80", 0, api.ErrBig},
		{nineFull + "81 00", 0, api.ErrBig},
		{strings.Repeat("80", 9) + "80 00", 0, api.ErrBig},
		{"00", 2, api.ErrArg},
		{"00", -1, api.ErrArg},
		{"", 1, api.ErrArg},
		{"80", math.MinInt, api.ErrArg},
		{"80", math.MaxInt, api.ErrArg},
	} {
		v, end, err := wire.ReadUint(unhex(t, x.b), x.at)
		if v != 0 || end != 0 || err != x.want {
			t.Errorf("ReadUint(%s, %d) = %d, %d, %d, want %d", x.b, x.at, v, end, err, x.want)
		}
	}
}

// 1.1
func TestReadUintReads(t *testing.T) {
	for _, x := range []struct {
		b    string
		at   int
		v    uint64
		end  int
		what string
	}{
		{"80 01", 0, 128, 2, "two groups"},
		{"00 80", 0, 0, 1, "a cut number behind it"},
		{"ff 00", 1, 0, 2, "from the midst"},
		{nineFull + "01 80", 0, math.MaxUint64, 10, "the greatest"},
	} {
		v, end, err := wire.ReadUint(unhex(t, x.b), x.at)
		if v != x.v || end != x.end || err != api.OK {
			t.Errorf("%s: %d, %d, %d, want %d, %d", x.what, v, end, err, x.v, x.end)
		}
	}
}

// 1.2
func TestBytesIsWritten(t *testing.T) {
	for _, x := range []struct{ b, want string }{
		{"", "00"},
		{"61 62", "02 61 62"},
		{strings.Repeat("00", 127), "7f" + strings.Repeat("00", 127)},
		{strings.Repeat("ff", 128), "80 01" + strings.Repeat("ff", 128)},
	} {
		if got := wire.Bytes(unhex(t, x.b)); !bytes.Equal(got, unhex(t, x.want)) {
			t.Errorf("Bytes(%s) = % x", x.b, got)
		}
	}
}

// 1.2
func TestReadBytesReads(t *testing.T) {
	for _, x := range []struct {
		b        string
		at, most int
		want     string
		end      int
	}{
		{"02 61 62 63", 0, 9, "61 62", 3},
		{"02 61 62", 0, 2, "61 62", 3},
		{"02 61 62", 0, math.MaxInt, "61 62", 3},
		{"00", 0, 0, "", 1},
		{"05 01 61 80", 1, 1, "61", 3},
	} {
		b, end, err := wire.ReadBytes(unhex(t, x.b), x.at, x.most)
		if !bytes.Equal(b, unhex(t, x.want)) || end != x.end || err != api.OK {
			t.Errorf("ReadBytes(%s, %d, %d) = % x, %d, %d", x.b, x.at, x.most, b, end, err)
		}
	}
}

// 1.2
func TestReadBytesRefuses(t *testing.T) {
	for _, x := range []struct {
		b        string
		at, most int
		want     api.Errno
	}{
		{"02 61 62", 0, 1, api.ErrBig},
		{"02", 0, 1, api.ErrBig}, // ahead of ErrTorn
		{"01 61", 0, 0, api.ErrBig},
		{nineFull + "01", 0, math.MaxInt, api.ErrBig},
		{strings.Repeat("80", 9) + "01", 0, math.MaxInt, api.ErrBig},
		{strings.Repeat("ff", 8) + "7f", 0, math.MaxInt, api.ErrTorn},
		{"02 61", 0, 9, api.ErrTorn},
		{"02 61 62", 1, math.MaxInt, api.ErrTorn},
		{"02", 0, 2, api.ErrTorn},
		{"", 0, 0, api.ErrTorn},
		{"80", 0, 0, api.ErrTorn},
		{"82 00 61 62", 0, 9, api.ErrForm},
		{"82 00 61 62", 0, 1, api.ErrForm}, // ahead of ErrBig
		{nineFull + "02", 0, 0, api.ErrBig},
		{"00", 0, -1, api.ErrArg},
		{"", 0, math.MinInt, api.ErrArg}, // ahead of ErrTorn
		{"80 00", 0, -1, api.ErrArg},     // ahead of ErrForm
		{"00", 2, 0, api.ErrArg},
		{"00", -1, 0, api.ErrArg},
		{"00", math.MaxInt, 0, api.ErrArg},
		{"00", math.MinInt, -1, api.ErrArg},
	} {
		b, end, err := wire.ReadBytes(unhex(t, x.b), x.at, x.most)
		if len(b) != 0 || end != 0 || err != x.want {
			t.Errorf("ReadBytes(%s, %d, %d) = % x, %d, %d, want %d", x.b, x.at, x.most, b, end, err, x.want)
		}
	}
}

// 1.3
func TestRisingAndFallingAreWritten(t *testing.T) {
	for _, x := range []struct {
		n               int
		rising, falling string
	}{
		{0, "00 00 00 00 00 00 00 00", "7f ff ff ff ff ff ff ff"},
		{1, "00 00 00 00 00 00 00 01", "7f ff ff ff ff ff ff fe"},
		{0x0102030405060708, "01 02 03 04 05 06 07 08", "7e fd fc fb fa f9 f8 f7"},
		{math.MaxInt, "7f ff ff ff ff ff ff ff", "00 00 00 00 00 00 00 00"},
	} {
		r, err := wire.Rising(x.n)
		if !bytes.Equal(r, unhex(t, x.rising)) || err != api.OK {
			t.Errorf("Rising(%d) = % x, %d", x.n, r, err)
		}
		f, err := wire.Falling(x.n)
		if !bytes.Equal(f, unhex(t, x.falling)) || err != api.OK {
			t.Errorf("Falling(%d) = % x, %d", x.n, f, err)
		}
		if n, end, err := wire.ReadRising(unhex(t, "01"+x.rising), 1); n != x.n || end != 9 || err != api.OK {
			t.Errorf("ReadRising(%s) = %d, %d, %d", x.rising, n, end, err)
		}
		if n, end, err := wire.ReadFalling(unhex(t, "01"+x.falling), 1); n != x.n || end != 9 || err != api.OK {
			t.Errorf("ReadFalling(%s) = %d, %d, %d", x.falling, n, end, err)
		}
	}
	for _, n := range []int{-1, math.MinInt} {
		if b, err := wire.Rising(n); len(b) != 0 || err != api.ErrArg {
			t.Errorf("Rising(%d) = % x, %d", n, b, err)
		}
		if b, err := wire.Falling(n); len(b) != 0 || err != api.ErrArg {
			t.Errorf("Falling(%d) = % x, %d", n, b, err)
		}
	}
}

// 1.3
func TestReadRisingAndReadFallingRefuse(t *testing.T) {
	for _, x := range []struct {
		b    string
		at   int
		want api.Errno
	}{
		{"80 00 00 00 00 00 00 00", 0, api.ErrBig},
		{"ff ff ff ff ff ff ff ff 00", 0, api.ErrBig},
		{"00 80 00 00 00 00 00 00 01", 1, api.ErrBig},
		{"80 00 00 00 00 00 00", 0, api.ErrTorn}, // ahead of ErrBig
		{"00 00 00 00 00 00 00 00", 1, api.ErrTorn},
		{"00 00 00 00 00 00 00 00", 8, api.ErrTorn},
		{"", 0, api.ErrTorn},
		{"", 1, api.ErrArg},
		{"", -1, api.ErrArg},
		{"00 00 00 00 00 00 00 00", 9, api.ErrArg},
		{"00 00 00 00 00 00 00 00", math.MaxInt, api.ErrArg},
		{"00 00 00 00 00 00 00 00", math.MinInt, api.ErrArg},
	} {
		if n, end, err := wire.ReadRising(unhex(t, x.b), x.at); n != 0 || end != 0 || err != x.want {
			t.Errorf("ReadRising(%s, %d) = %d, %d, %d, want %d", x.b, x.at, n, end, err, x.want)
		}
		if n, end, err := wire.ReadFalling(unhex(t, x.b), x.at); n != 0 || end != 0 || err != x.want {
			t.Errorf("ReadFalling(%s, %d) = %d, %d, %d, want %d", x.b, x.at, n, end, err, x.want)
		}
	}
}

// 1.4
func TestOrderedIsWritten(t *testing.T) {
	for _, x := range []struct{ b, want string }{
		{"", "00 01"},
		{"00", "00 ff 00 01"},
		{"61 00 62", "61 00 ff 62 00 01"},
		{"00 00", "00 ff 00 ff 00 01"},
		{"ff", "ff 00 01"},
		{"00 ff", "00 ff ff 00 01"},
		{"00 01", "00 ff 01 00 01"},
		{"01", "01 00 01"},
	} {
		if got := wire.Ordered(unhex(t, x.b)); !bytes.Equal(got, unhex(t, x.want)) {
			t.Errorf("Ordered(%s) = % x, want %s", x.b, got, x.want)
		}
		got, end, err := wire.ReadOrdered(unhex(t, "00"+x.want+"62"), 1)
		if !bytes.Equal(got, unhex(t, x.b)) || end != 1+len(unhex(t, x.want)) || err != api.OK {
			t.Errorf("ReadOrdered(%s) = % x, %d, %d", x.want, got, end, err)
		}
	}
}

// 1.4
func TestReadOrderedRefuses(t *testing.T) {
	for _, x := range []struct {
		b    string
		at   int
		want api.Errno
	}{
		{"61 00 02", 0, api.ErrForm},
		{"61 00 fe 00 01", 0, api.ErrForm},
		{"00 00", 0, api.ErrForm},
		{"00 00 01", 0, api.ErrForm},
		{"00 ff 00 02 00", 0, api.ErrForm},
		{"61 00", 0, api.ErrTorn},
		{"61", 0, api.ErrTorn},
		{"", 0, api.ErrTorn},
		{"00", 0, api.ErrTorn},
		{"00 ff", 0, api.ErrTorn},
		{"00 ff 00", 0, api.ErrTorn},
		{"61 00 01", 3, api.ErrTorn},
		{"61 00 01", 2, api.ErrTorn},
		{"61 00 01", 4, api.ErrArg},
		{"61 00 01", -1, api.ErrArg},
		{"61 00 01", math.MaxInt, api.ErrArg},
		{"61 00 01", math.MinInt, api.ErrArg},
		{"", 1, api.ErrArg},
	} {
		b, end, err := wire.ReadOrdered(unhex(t, x.b), x.at)
		if len(b) != 0 || end != 0 || err != x.want {
			t.Errorf("ReadOrdered(%s, %d) = % x, %d, %d, want %d", x.b, x.at, b, end, err, x.want)
		}
	}
	if b, end, err := wire.ReadOrdered(unhex(t, "61 00 01 62"), 0); string(b) != "a" || end != 3 || err != api.OK {
		t.Errorf("ReadOrdered with more behind = % x, %d, %d", b, end, err)
	}
}

// 1.8
func TestOrderedSorts(t *testing.T) {
	l := someStrings()
	for _, a := range l {
		for _, b := range l {
			x, y := wire.Ordered(a), wire.Ordered(b)
			want := bytes.Compare(a, b)
			if got := bytes.Compare(x, y); got != want {
				t.Fatalf("% x and % x: %d, want %d", a, b, got, want)
			}
			if bytes.HasPrefix(x, y) != (want == 0) {
				t.Fatalf("% x and % x: one begins the other", a, b)
			}
			if want == 0 {
				continue
			}
			for _, behind := range [][2]string{{"\xff", ""}, {"", "\xff"}, {"\x00", "\xff\xff"}, {"\xff\xff", "\x00"}} {
				got := bytes.Compare(join(x, []byte(behind[0])), join(y, []byte(behind[1])))
				if got != want {
					t.Fatalf("% x and % x with more behind: %d, want %d", a, b, got, want)
				}
			}
		}
	}
}

// 1.8
func TestRisingAndFallingSort(t *testing.T) {
	var l []int
	for _, v := range someNumbers() {
		if v <= math.MaxInt {
			l = append(l, int(v))
		}
	}
	for _, a := range l {
		for _, b := range l {
			want := 0
			if a < b {
				want = -1
			} else if a > b {
				want = 1
			}
			ra, _ := wire.Rising(a)
			rb, _ := wire.Rising(b)
			if got := bytes.Compare(ra, rb); got != want {
				t.Errorf("Rising of %d and %d: %d", a, b, got)
			}
			fa, _ := wire.Falling(a)
			fb, _ := wire.Falling(b)
			if got := bytes.Compare(fb, fa); got != want {
				t.Errorf("Falling of %d and %d: %d", a, b, -got)
			}
		}
	}
}
