package block

import (
	"maps"
	"slices"

	"tidewrack/api"
	"tidewrack/chunk"
	"tidewrack/codec"
	"tidewrack/seal"
)

// The first bytes of a block and of a meta.
const (
	blockMark = "TWB\x01"
	metaMark  = "TWM\x01"
)

// writer puts each piece onto none and joins it itself: codec would copy all that stands ahead of it.
type writer struct {
	out []byte
}

func (w *writer) number(v uint64) {
	w.out = append(w.out, codec.PutUint(nil, v)...)
}

func (w *writer) count(n int) {
	w.number(uint64(n))
}

func (w *writer) signed(v int64) {
	w.out = append(w.out, codec.PutInt(nil, v)...)
}

func (w *writer) text(s string) {
	w.out = append(w.out, codec.PutText(nil, s)...)
}

// layBlock takes series that may be.
func layBlock(ss []api.Series) []byte {
	w := writer{[]byte(blockMark)}
	texts := textsOf(ss)
	w.count(len(texts))
	for _, s := range texts {
		w.text(s)
	}
	numbers := numbered(texts)
	w.count(len(ss))
	for _, s := range ss {
		w.labels(s.Labels, numbers)
	}
	for _, s := range ss {
		w.points(s.Points)
	}
	return seal.Close(w.out)
}

func (w *writer) labels(ls []api.Label, numbers map[string]int) {
	w.count(len(ls))
	for _, l := range ls {
		w.count(numbers[l.Name])
		w.count(numbers[l.Value])
	}
}

func (w *writer) points(ps []api.Point) {
	c, _ := chunk.Encode(ps)
	w.count(len(c))
	w.out = append(w.out, c...)
}

// textsOf has all Names and Values, sorted, each once.
func textsOf(ss []api.Series) []string {
	seen := map[string]struct{}{}
	for _, s := range ss {
		for _, l := range s.Labels {
			seen[l.Name] = struct{}{}
			seen[l.Value] = struct{}{}
		}
	}
	return slices.Sorted(maps.Keys(seen))
}

// numbered has the place of each text among all.
func numbered(texts []string) map[string]int {
	numbers := map[string]int{}
	for i, s := range texts {
		numbers[s] = i
	}
	return numbers
}

// layMeta takes a meta that may be.
func layMeta(m api.Meta) []byte {
	w := writer{[]byte(metaMark)}
	w.number(m.ID)
	w.count(m.Level)
	w.count(m.Series)
	w.count(m.Points)
	w.signed(m.Min)
	w.signed(m.Max)
	w.count(len(m.Sources))
	for _, id := range m.Sources {
		w.number(id)
	}
	return seal.Close(w.out)
}
