package order

import (
	"math"

	"strata/api"
	"strata/wire"
)

// reader takes parts off bytes, from the left. Where none is that it can take it gives up by a panic, which the face catches: so nothing in between need ask whether there was one.
type reader struct {
	b  []byte
	at int
}

// gaveUp is what it panics with.
type gaveUp struct{}

// step reads a part of a thing; false: what it read may not be.
type step[T any] func(r *reader, into *T) bool

// readBy calls steps until one refuses. Each part is taken only in the one way in which it is written, so the bytes are those of what was read.
func readBy[T any](b []byte, steps []step[T]) T {
	var into T
	r := &reader{b: b}
	for _, take := range steps {
		if !take(r, &into) {
			panic(gaveUp{})
		}
	}
	if r.at < len(b) {
		panic(gaveUp{})
	}
	return into
}

func (r *reader) number() int {
	n, end, err := wire.ReadUint(r.b, r.at)
	if err != api.OK || n > math.MaxInt {
		panic(gaveUp{})
	}
	r.at = end
	return int(n)
}

func (r *reader) text() []byte {
	b, end, err := wire.ReadBytes(r.b, r.at, len(r.b))
	if err != api.OK {
		panic(gaveUp{})
	}
	r.at = end
	return b
}

func (r *reader) one() int {
	if r.at == len(r.b) {
		panic(gaveUp{})
	}
	r.at++
	return int(r.b[r.at-1])
}

func (r *reader) flag() bool {
	n := r.one()
	if n > 1 {
		panic(gaveUp{})
	}
	return n == 1
}

// word reads any number in eight bytes, the highest first.
func (r *reader) word() int {
	n := 0
	for range 8 {
		n = n<<8 | r.one()
	}
	return n
}

// takeList makes no room ahead: a few bytes may speak of very many items. But each takes a byte at least, so it ends.
func takeList[T any](r *reader, take func(*reader) T) []T {
	var list []T
	for range r.number() {
		list = append(list, take(r))
	}
	return list
}
