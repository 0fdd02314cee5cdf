package kv

import (
	"slices"

	"tidewrack/codec"
	"tidewrack/reader"
)

const maxKey = 64

// register: one that was never set has the version 0.
type register struct {
	version uint64
	data    string
}

func isKey(s string) bool {
	return len(s) >= 1 && len(s) <= maxKey
}

// next is the register behind a change. Behind the last number there is none: versions begin anew then, at 1, as 0 is that of a register that was never set.
func (r register) next(data []byte) register {
	return register{version: max(r.version+1, 1), data: string(data)}
}

// lay has the record that says that the key's register is this one.
func (r register) lay(key string) []byte {
	return slices.Concat(codec.PutText(nil, key), codec.PutUint(nil, r.version), codec.PutText(nil, r.data))
}

// read has what a record says, if it says something.
func read(rec []byte) (string, register, bool) {
	from := reader.Of(rec)
	key, version, data := from.Text(), from.Number(), from.Text()
	if !from.Whole() || !isKey(key) || version == 0 {
		return "", register{}, false
	}
	return key, register{version: version, data: data}, true
}
