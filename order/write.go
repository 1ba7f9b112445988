package order

import (
	"strata/api"
	"strata/wire"
)

// writer lays parts one behind the other. By the part that would make them more than most bytes it is full for good, and takes none any more: what is too long may be far too long.
type writer struct {
	out  []byte
	most int
	full bool
}

func (w *writer) written() ([]byte, api.Errno) {
	if w.full {
		return nil, api.ErrLong
	}
	return w.out, api.OK
}

func (w *writer) put(part ...byte) {
	if w.full || len(w.out)+len(part) > w.most {
		w.full = true
		return
	}
	w.out = append(w.out, part...)
}

// number writes a number that is not below 0.
func (w *writer) number(n int) { w.put(wire.Uint(uint64(n))...) }

// text writes what wire.Bytes does, without a copy of what may not fit.
func (w *writer) text(b []byte) {
	w.number(len(b))
	w.put(b...)
}

func (w *writer) one(n int) { w.put(byte(n)) }

func (w *writer) flag(is bool) {
	if is {
		w.one(1)
	} else {
		w.one(0)
	}
}

// word writes any number, in eight bytes, the highest first.
func (w *writer) word(n int) {
	for shift := 56; shift >= 0; shift -= 8 {
		w.one(n >> shift)
	}
}

func putList[T any](w *writer, list []T, put func(*writer, T)) {
	w.number(len(list))
	for _, x := range list {
		put(w, x)
		if w.full {
			return
		}
	}
}
