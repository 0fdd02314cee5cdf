package index

import (
	"tidewrack/api"
	"tidewrack/block"
	"tidewrack/codec"
	"tidewrack/reader"
	"tidewrack/seal"
)

// lay takes an index that may be. Each piece is laid onto none: codec would copy all that stands ahead of it.
func lay(ix api.Index) []byte {
	out := codec.PutUint(nil, ix.Version)
	out = append(out, codec.PutInt(nil, ix.Floor)...)
	out = append(out, codec.PutUint(nil, uint64(len(ix.Blocks)))...)
	for _, b := range ix.Blocks {
		out = append(out, layEntry(b)...)
	}
	return seal.Close(out)
}

func layEntry(b api.Entry) []byte {
	meta, _ := block.EncodeMeta(b.Meta)
	out := codec.PutText(nil, string(meta))
	out = codec.PutUint(out, number(b.Marked))
	return codec.PutInt(out, b.At)
}

func number(marked bool) uint64 {
	if marked {
		return 1
	}
	return 0
}

// read reads an index, if the bytes have the form of one; it need not be one that may be.
func read(b []byte) (api.Index, bool) {
	body, ok := seal.Open(b)
	if !ok {
		return api.Index{}, false
	}
	from := reader.Of(body)
	ix := api.Index{Version: from.Number(), Floor: from.Signed()}
	ix.Blocks = make([]api.Entry, from.UpTo(api.MaxBlocks))
	for i := range ix.Blocks {
		if ix.Blocks[i], ok = readEntry(from); !ok {
			return api.Index{}, false
		}
	}
	return ix, from.Whole()
}

func readEntry(from *reader.Reader) (api.Entry, bool) {
	m, e := block.DecodeMeta([]byte(from.Text()))
	return api.Entry{Meta: m, Marked: from.UpTo(1) == 1, At: from.Signed()}, e == api.OK
}
