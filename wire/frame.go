package wire

import (
	"bytes"

	"strata/api"
)

const (
	wordSize = 4
	headSize = 2 * wordSize // a body's length, and the sum of that
)

// halves: what half a byte makes of the sum.
var halves = [16]uint32{
	0x00000000, 0x105ec76f, 0x20bd8ede, 0x30e349b1,
	0x417b1dbc, 0x5125dad3, 0x61c69362, 0x7198540d,
	0x82f63b78, 0x92a8fc17, 0xa24bb5a6, 0xb21572c9,
	0xc38d26c4, 0xd3d3e1ab, 0xe330a81a, 0xf36e6f75,
}

// Sum is the check sum of the parts.
func Sum(parts ...[]byte) uint32 {
	sum := ^uint32(0)
	for _, part := range parts {
		for _, c := range part {
			sum ^= uint32(c)
			sum = sum>>4 ^ halves[sum&15]
			sum = sum>>4 ^ halves[sum&15]
		}
	}
	return ^sum
}

// Frame writes a body as a frame.
func Frame(body []byte) ([]byte, api.Errno) {
	if len(body) > api.MaxFrame {
		return nil, api.ErrLong
	}
	out := make([]byte, 0, headSize+len(body)+wordSize)
	out = appendLength(out, len(body))
	out = appendSum(out, Sum(out))
	out = append(out, body...)
	return appendSum(out, Sum(body)), api.OK
}

// ReadFrame reads the frame at a place: its body, and where it ends.
func ReadFrame(b []byte, at int) ([]byte, int, api.Errno) {
	if outside(b, at) {
		return nil, 0, api.ErrArg
	}
	n, err := readHead(b[at:])
	if err != api.OK {
		return nil, 0, err
	}
	rest := b[at+headSize:]
	if len(rest) < n+wordSize {
		return nil, 0, api.ErrTorn
	}
	body := rest[:n]
	if readSum(rest[n:]) != Sum(body) {
		return nil, 0, api.ErrSum
	}
	return bytes.Clone(body), at + headSize + n + wordSize, api.OK
}

// readHead is the length of the body whose frame b begins with.
func readHead(b []byte) (int, api.Errno) {
	if len(b) < headSize {
		return 0, api.ErrTorn
	}
	length := b[:wordSize]
	// The sum comes ahead of the bound: a length that was turned over must not be taken for one too great.
	if readSum(b[wordSize:]) != Sum(length) {
		return 0, api.ErrSum
	}
	n := readLength(length)
	if n > api.MaxFrame {
		return 0, api.ErrBig
	}
	return n, api.OK
}

func appendLength(out []byte, n int) []byte {
	return append(out, byte(n>>24), byte(n>>16), byte(n>>8), byte(n))
}

func readLength(b []byte) int {
	return int(b[0])<<24 | int(b[1])<<16 | int(b[2])<<8 | int(b[3])
}

func appendSum(out []byte, sum uint32) []byte {
	return append(out, byte(sum), byte(sum>>8), byte(sum>>16), byte(sum>>24))
}

func readSum(b []byte) uint32 {
	return uint32(b[0]) | uint32(b[1])<<8 | uint32(b[2])<<16 | uint32(b[3])<<24
}
