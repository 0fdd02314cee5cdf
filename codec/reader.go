package codec

import (
	"bytes"

	"tidewrack/api"
)

// reader stands at a place of bytes. Its methods read what stands there and go on behind it.
type reader struct {
	b  []byte
	at int
}

// read asks one of r's methods; beside an error it tells neither what was read so far nor the place.
func read[T any](r *reader, one func() (T, api.Errno)) (T, int, api.Errno) {
	v, e := one()
	if e != api.OK {
		var none T
		return none, 0, e
	}
	return v, r.at, api.OK
}

func (r *reader) number() (uint64, api.Errno) {
	if r.at < 0 || r.at > len(r.b) {
		return 0, api.ErrCodecEnd
	}
	v := uint64(0)
	for i, x := range r.b[r.at:] {
		if needless(i, x) || above(i, x) {
			return 0, api.ErrCodecForm
		}
		v |= uint64(x%moreBit) << (i * numberBits)
		if x < moreBit {
			r.at += i + 1
			return v, api.OK
		}
	}
	return 0, api.ErrCodecEnd
}

// needless: a last byte of nought adds nothing to the bytes ahead of it.
func needless(place int, x byte) bool {
	return place > 0 && x == 0
}

// above: no number goes on behind its tenth byte, which holds bit 63 alone.
func above(place int, x byte) bool {
	return place == lastPlace && x > 1
}

func (r *reader) signed() (int64, api.Errno) {
	v, e := r.number()
	return unfolded(v), e
}

func (r *reader) text() (string, api.Errno) {
	size, e := r.number()
	if e != api.OK {
		return "", e
	}
	s, e := r.next(size)
	return string(s), e
}

func (r *reader) record() ([]byte, api.Errno) {
	size, e := r.number()
	if e != api.OK {
		return nil, e
	}
	if size > api.MaxRecord {
		return nil, api.ErrCodecLong
	}
	rest, e := r.next(sumSize + size)
	if e != api.OK {
		return nil, e
	}
	sum, rec := rest[:sumSize], rest[sumSize:]
	if !bytes.Equal(sum, sumBytes(Sum(rec))) {
		return nil, api.ErrCodecSum
	}
	return bytes.Clone(rec), api.OK
}

// next is a piece of what was handed in, not to be handed out. A size is held against the rest as it is: as an int it might wrap round.
func (r *reader) next(size uint64) ([]byte, api.Errno) {
	if size > uint64(len(r.b)-r.at) {
		return nil, api.ErrCodecEnd
	}
	from := r.at
	r.at += int(size)
	return r.b[from:r.at], api.OK
}
