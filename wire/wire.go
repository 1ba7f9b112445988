// Package wire: numbers, order-preserving bytes, frames: see DOC.md, chapter 1.
package wire

import (
	"bytes"
	"math"

	"strata/api"
)

const (
	groupBits   = 7
	groupMask   = 1<<groupBits - 1
	moreFollows = 1 << groupBits
	longestUint = 10 // ten groups of seven bits hold 64

	fixedSize = 8 // bytes of Rising and of Falling
)

// A byte 0 is never written alone: what follows it says whether it is one of the string's or the end, and the end sorts ahead of all else.
const (
	ordZero    = 0
	ordEscaped = 0xff
	ordEnd     = 1
)

func outside(b []byte, at int) bool { return at < 0 || at > len(b) }

// Uint writes a number.
func Uint(v uint64) []byte {
	out := make([]byte, 0, longestUint)
	for v > groupMask {
		out = append(out, byte(v&groupMask)|moreFollows)
		v >>= groupBits
	}
	return append(out, byte(v))
}

// ReadUint reads a number: it, and where it ends.
func ReadUint(b []byte, at int) (uint64, int, api.Errno) {
	if outside(b, at) {
		return 0, 0, api.ErrArg
	}
	var v uint64
	// It ends at the tenth byte at the latest: that one is above 1 if it says that more follow.
	for i := 0; ; i++ {
		if at+i == len(b) {
			return 0, 0, api.ErrTorn
		}
		c := b[at+i]
		if i == longestUint-1 && c > 1 {
			return 0, 0, api.ErrBig
		}
		v |= uint64(c&groupMask) << (groupBits * i)
		if c&moreFollows != 0 {
			continue
		}
		if c == 0 && i > 0 {
			return 0, 0, api.ErrForm
		}
		return v, at + i + 1, api.OK
	}
}

// Bytes writes a byte string with its length.
func Bytes(b []byte) []byte {
	head := Uint(uint64(len(b)))
	out := make([]byte, 0, len(head)+len(b))
	out = append(out, head...)
	return append(out, b...)
}

// ReadBytes reads a byte string of at most so many bytes.
func ReadBytes(b []byte, at, most int) ([]byte, int, api.Errno) {
	if outside(b, at) || most < 0 {
		return nil, 0, api.ErrArg
	}
	n, start, err := ReadUint(b, at)
	if err != api.OK {
		return nil, 0, err
	}
	if n > uint64(most) {
		return nil, 0, api.ErrBig
	}
	if n > uint64(len(b)-start) {
		return nil, 0, api.ErrTorn
	}
	end := start + int(n)
	return bytes.Clone(b[start:end]), end, api.OK
}

// Ordered writes a byte string so that what is written sorts as it does, and none begins another.
func Ordered(b []byte) []byte {
	out := make([]byte, 0, len(b)+bytes.Count(b, []byte{ordZero})+2)
	for _, c := range b {
		out = append(out, c)
		if c == ordZero {
			out = append(out, ordEscaped)
		}
	}
	return append(out, ordZero, ordEnd)
}

// ReadOrdered reads such a byte string.
func ReadOrdered(b []byte, at int) ([]byte, int, api.Errno) {
	if outside(b, at) {
		return nil, 0, api.ErrArg
	}
	var out []byte
	for {
		zero := bytes.IndexByte(b[at:], ordZero)
		if zero < 0 || at+zero+1 == len(b) {
			return nil, 0, api.ErrTorn
		}
		out = append(out, b[at:at+zero]...)
		at += zero + 2
		switch b[at-1] {
		case ordEnd:
			return out, at, api.OK
		case ordEscaped:
			out = append(out, ordZero)
		default:
			return nil, 0, api.ErrForm
		}
	}
}

// Rising writes a number in eight bytes that sort as it does.
func Rising(n int) ([]byte, api.Errno) {
	if n < 0 {
		return nil, api.ErrArg
	}
	out := make([]byte, fixedSize)
	for i := range out {
		out[i] = byte(n >> (8 * (fixedSize - 1 - i)))
	}
	return out, api.OK
}

// ReadRising reads such a number.
func ReadRising(b []byte, at int) (int, int, api.Errno) {
	if outside(b, at) {
		return 0, 0, api.ErrArg
	}
	if len(b)-at < fixedSize {
		return 0, 0, api.ErrTorn
	}
	var v uint64
	for _, c := range b[at : at+fixedSize] {
		v = v<<8 | uint64(c)
	}
	if v > math.MaxInt {
		return 0, 0, api.ErrBig
	}
	return int(v), at + fixedSize, api.OK
}

// Falling writes a number in eight bytes that sort the other way.
func Falling(n int) ([]byte, api.Errno) {
	if n < 0 {
		return nil, api.ErrArg
	}
	return Rising(math.MaxInt - n)
}

// ReadFalling reads such a number.
func ReadFalling(b []byte, at int) (int, int, api.Errno) {
	n, end, err := ReadRising(b, at)
	if err != api.OK {
		return 0, 0, err
	}
	return math.MaxInt - n, end, api.OK
}
