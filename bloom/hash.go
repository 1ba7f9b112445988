package bloom

const (
	hashStart = 0xcbf29ce484222325
	hashTimes = 0x100000001b3
)

// halves is a hash: its higher half, and its lower one.
type halves [2]uint32

// hash is FNV-1a of 64 bits.
func hash(key []byte) halves {
	h := uint64(hashStart)
	for _, b := range key {
		h = (h ^ uint64(b)) * hashTimes
	}
	return halves{uint32(h >> 32), uint32(h)}
}
