package cell

import (
	"strata/api"
	"strata/wire"
)

// maxKey is the length of the longest key: its row and its qualifier are as long as they may be, and all their bytes are 0, which take two each.
const maxKey = (2*api.MaxRow + 2) + 2 + (2*api.MaxQual + 2) + 1 + 8 + 8 + 1

// Pack writes an entry.
func Pack(e api.Entry) ([]byte, api.Errno) {
	key, err := Key(e)
	if err != api.OK {
		return nil, err
	}
	return append(wire.Bytes(key), wire.Bytes(e.Value)...), api.OK
}

// Unpack reads an entry: it, and where it ends.
func Unpack(b []byte, at int) (api.Entry, int, api.Errno) {
	key, at, err := wire.ReadBytes(b, at, maxKey)
	if err != api.OK {
		return api.Entry{}, 0, err
	}
	e, err := ParseKey(key)
	if err != api.OK {
		return api.Entry{}, 0, api.ErrPack
	}
	value, at, err := wire.ReadBytes(b, at, api.MaxValue)
	if err != api.OK {
		return api.Entry{}, 0, err
	}
	if len(value) > 0 && e.Kind != api.KPut {
		return api.Entry{}, 0, api.ErrPack
	}
	e.Value = value
	return e, at, api.OK
}
