package label

import (
	"strings"

	"tidewrack/api"
	"tidewrack/codec"
	"tidewrack/fnv"
	"tidewrack/quote"
)

// Encode: P3.3. Each text is laid onto none: codec would copy all that stands ahead of it.
func Encode(ls []api.Label) []byte {
	out := codec.PutUint(nil, uint64(len(ls)))
	for _, l := range ls {
		out = append(out, codec.PutText(nil, l.Name)...)
		out = append(out, codec.PutText(nil, l.Value)...)
	}
	return out
}

// Decode: P3.3.
func Decode(b []byte, at int) ([]api.Label, int, api.Errno) {
	ls, to, e := read(b, at)
	if e == api.OK {
		e = Check(ls)
	}
	if e != api.OK {
		return nil, 0, e
	}
	return ls, to, api.OK
}

// read reads all labels, whatever they are: codec's errors go ahead of Check's.
func read(b []byte, at int) ([]api.Label, int, api.Errno) {
	count, at, e := codec.Uint(b, at)
	if e != api.OK {
		return nil, 0, e
	}
	if count > api.MaxLabels {
		return nil, 0, api.ErrLabelForm
	}
	ls := make([]api.Label, count)
	for i := range ls {
		ls[i], at, e = readOne(b, at)
		if e != api.OK {
			return nil, 0, e
		}
	}
	return ls, at, api.OK
}

func readOne(b []byte, at int) (api.Label, int, api.Errno) {
	name, at, e := codec.Text(b, at)
	if e != api.OK {
		return api.Label{}, 0, e
	}
	value, at, e := codec.Text(b, at)
	if e != api.OK {
		return api.Label{}, 0, e
	}
	return api.Label{Name: name, Value: value}, at, api.OK
}

// Hash: P3.3.
func Hash(ls []api.Label) uint32 {
	return fnv.Sum(Encode(ls))
}

// Text: P3.3.
func Text(ls []api.Label) string {
	var out strings.Builder
	out.WriteByte('{')
	for i, l := range ls {
		if i > 0 {
			out.WriteByte(',')
		}
		out.WriteString(l.Name)
		out.WriteByte('=')
		out.WriteString(quote.Text(l.Value))
	}
	out.WriteByte('}')
	return out.String()
}
