package ring

import (
	"math"

	"tidewrack/api"
	"tidewrack/codec"
	"tidewrack/reader"
)

// laid has the bytes of numbers, one behind the other. Each is laid onto none: codec would copy all that stands ahead of it.
func laid(numbers ...uint64) []byte {
	var out []byte
	for _, v := range numbers {
		out = append(out, codec.PutUint(nil, v)...)
	}
	return out
}

// numbers are those that stand in the bytes of a ring that may be.
func numbers(r api.Ring) []uint64 {
	out := []uint64{r.Epoch, uint64(len(r.Members))}
	for _, m := range r.Members {
		out = append(out, uint64(m.ID), uint64(m.State), uint64(len(m.Tokens)))
		for _, token := range m.Tokens {
			out = append(out, uint64(token))
		}
	}
	return out
}

// read reads a ring, if the bytes have the form of one; it need not be one that may be.
func read(b []byte) (api.Ring, bool) {
	from := reader.Of(b)
	r := api.Ring{Epoch: from.Number()}
	r.Members = make([]api.Member, from.UpTo(api.MaxIngest))
	for i := range r.Members {
		r.Members[i] = readMember(from)
	}
	return r, from.Whole()
}

func readMember(from *reader.Reader) api.Member {
	var m api.Member
	m.ID = int(from.UpTo(api.MaxIngest - 1))
	m.State = int(from.UpTo(api.RingLeave))
	m.Tokens = make([]uint32, from.UpTo(api.MaxTokens))
	for i := range m.Tokens {
		m.Tokens[i] = uint32(from.UpTo(math.MaxUint32))
	}
	return m
}
