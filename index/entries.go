package index

import (
	"cmp"
	"slices"

	"tidewrack/api"
	"tidewrack/metas"
)

// entries are those of an index that may be. Some of them are walked by ranging over a method of them, handed on as a value.
type entries []api.Entry

func (es entries) live(yield func(api.Meta) bool) {
	for _, b := range es {
		if !b.Marked && !yield(b.Meta) {
			return
		}
	}
}

func (es entries) dead(yield func(api.Entry) bool) {
	for _, b := range es {
		if b.Marked && !yield(b) {
			return
		}
	}
}

// copied are the same in memory of their own.
func (es entries) copied() entries {
	out := slices.Clone(es)
	for i, b := range out {
		out[i].Meta = copiedMeta(b.Meta)
	}
	return out
}

func copiedMeta(m api.Meta) api.Meta {
	m.Sources = slices.Clone(m.Sources)
	return m
}

func (es entries) with(m api.Meta) entries {
	at, found := es.find(m.ID)
	if found {
		return es.copied()
	}
	return slices.Insert(es.copied(), at, api.Entry{Meta: copiedMeta(m)})
}

func (es entries) without(id uint64) entries {
	at, found := es.find(id)
	if !found {
		return es.copied()
	}
	return slices.Delete(es.copied(), at, at+1)
}

// find is the place of an entry, or that in which it would stand.
func (es entries) find(id uint64) (int, bool) {
	return slices.BinarySearchFunc(es, id, func(b api.Entry, id uint64) int { return cmp.Compare(b.Meta.ID, id) })
}

// marked asks only what was live ahead of it: two that have each other among their sources are both marked.
func (es entries) marked(floor int64, now int64) entries {
	out := es.copied()
	for i, b := range es {
		if !b.Marked && (b.Meta.Max < floor || es.replace(b.Meta.ID)) {
			out[i].Marked, out[i].At = true, now
		}
	}
	return out
}

// replace asks whether a live one, another than that, has it among its sources.
func (es entries) replace(id uint64) bool {
	for m := range es.live {
		if m.ID != id && blockID(id).isSourceOf(m) {
			return true
		}
	}
	return false
}

// blockID is asked about entries.
type blockID uint64

func (id blockID) isSourceOf(m api.Meta) bool {
	_, found := slices.BinarySearch(m.Sources, uint64(id))
	return found
}

func (id blockID) standsIn(b api.Entry) bool {
	return b.Meta.ID == uint64(id) || id.isSourceOf(b.Meta)
}

// goneBy asks whether delay or more has gone by from one moment to another. They may be further apart than an int64 can tell.
func goneBy(from int64, now int64, delay int64) bool {
	return from <= now && uint64(now)-uint64(from) >= uint64(max(delay, 0))
}

func mayBe(ix api.Index) bool {
	if ix.Floor < -api.MaxTime || ix.Floor > api.MaxTime || len(ix.Blocks) > api.MaxBlocks {
		return false
	}
	for i, b := range ix.Blocks {
		if !entryMayBe(b) || i > 0 && ix.Blocks[i-1].Meta.ID >= b.Meta.ID {
			return false
		}
	}
	return true
}

func entryMayBe(b api.Entry) bool {
	return metas.MayBe(b.Meta) && (b.Marked || b.At == 0)
}
