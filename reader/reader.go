// Package reader reads what codec has laid, piece by piece: what the layers share that keep their things as bytes.
package reader

import (
	"tidewrack/api"
	"tidewrack/codec"
)

// Reader stands at a place of bytes. Its calls read what stands there and go on behind it. From the first piece on that is wrong they tell zero values, so that it is enough to ask in the end whether all was Whole.
type Reader struct {
	b     []byte
	at    int
	wrong bool
}

// Of stands at the first of the bytes, which it does not change.
func Of(b []byte) *Reader {
	return &Reader{b: b}
}

// Number reads a number.
func (r *Reader) Number() uint64 {
	return next(r, codec.Uint)
}

// UpTo reads a number that is wrong above most.
func (r *Reader) UpTo(most uint64) uint64 {
	v := r.Number()
	if v > most {
		r.wrong = true
		return 0
	}
	return v
}

// Signed reads a signed number.
func (r *Reader) Signed() int64 {
	return next(r, codec.Int)
}

// Text reads a text.
func (r *Reader) Text() string {
	return next(r, codec.Text)
}

// Whole asks whether nothing was wrong, and nothing is left.
func (r *Reader) Whole() bool {
	return !r.wrong && r.at == len(r.b)
}

// next reads by one of codec's calls.
func next[T any](r *Reader, read func([]byte, int) (T, int, api.Errno)) T {
	var none T
	if r.wrong {
		return none
	}
	v, behind, e := read(r.b, r.at)
	if e != api.OK {
		r.wrong = true
		return none
	}
	r.at = behind
	return v
}
