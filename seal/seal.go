// Package seal lays the sum of bytes behind them, by which turned bits are told: what the layers share that close their bytes so.
package seal

import (
	"bytes"
	"slices"

	"tidewrack/codec"
)

const sumSize = 4

// Close is b and its sum behind, in four bytes, the highest first.
func Close(b []byte) []byte {
	return slices.Concat(b, sumBytes(b))
}

// Open has what stands ahead of the sum, and whether there is one and it is right: a piece of b, not to be handed out.
func Open(b []byte) ([]byte, bool) {
	if len(b) < sumSize {
		return nil, false
	}
	body, sum := b[:len(b)-sumSize], b[len(b)-sumSize:]
	if !bytes.Equal(sum, sumBytes(body)) {
		return nil, false
	}
	return body, true
}

func sumBytes(b []byte) []byte {
	s := codec.Sum(b)
	return []byte{byte(s >> 24), byte(s >> 16), byte(s >> 8), byte(s)}
}
