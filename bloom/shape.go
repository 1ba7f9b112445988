package bloom

import (
	"iter"

	"strata/api"
)

const (
	letter     = 'B'
	headSize   = 6 // the letter, the number of places, the number of bits
	mostPlaces = 7 * api.MaxBits / 10
	leastBits  = 64
	mostBits   = api.MaxKeys * api.MaxBits
)

// shape is what a filter says of itself ahead of its bits.
type shape struct {
	places byte   // of a key
	bits   uint32 // of the filter
}

func shapeOf(bits, keys int) shape {
	places := max(7*bits/10, 1)
	whole := (keys*bits + 7) / 8 * 8
	return shape{places: byte(places), bits: uint32(max(whole, leastBits))}
}

// readShape reads the shape of a filter; false: the bytes are none.
func readShape(b []byte) (shape, bool) {
	if len(b) < headSize || b[0] != letter {
		return shape{}, false
	}
	s := shape{places: b[1], bits: uint32(b[2])<<24 | uint32(b[3])<<16 | uint32(b[4])<<8 | uint32(b[5])}
	return s, s.may() && len(b) == s.size()
}

func (s shape) may() bool {
	return s.places >= 1 && s.places <= mostPlaces && s.bits%8 == 0 && s.bits >= leastBits && s.bits <= mostBits
}

func (s shape) size() int { return headSize + int(s.bits/8) }

// empty is the filter of this shape with no bit set.
func (s shape) empty() []byte {
	filter := make([]byte, s.size())
	filter[0], filter[1] = letter, s.places
	filter[2], filter[3], filter[4], filter[5] = byte(s.bits>>24), byte(s.bits>>16), byte(s.bits>>8), byte(s.bits)
	return filter
}

// placesOf goes through the places of a key, by its hash. They are counted in 32 bits, so that they wrap round as the document asks.
func (s shape) placesOf(h halves) iter.Seq[int] {
	return func(yield func(int) bool) {
		at, step := h[0], h[1]|1
		for range s.places {
			if !yield(int(at % s.bits)) {
				return
			}
			at += step
		}
	}
}

// mask has the one bit of its byte that stands for a place.
func mask(place int) byte { return 128 >> (place % 8) }
