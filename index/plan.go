package index

import (
	"cmp"
	"slices"

	"tidewrack/api"
	"tidewrack/order"
)

const (
	// windowWidth is what blocks that do not overlap are compacted over.
	windowWidth = 3 * api.Range
	// compactedLevel is that of blocks which have been compacted over a window.
	compactedLevel = 2
)

// plan is a list of IDs that fits, with the numbers for which it does.
type plan struct {
	ids     []uint64
	numbers []uint64
}

// take takes one more, if the list still fits.
func (p *plan) take(m api.Meta) bool {
	numbers := order.Union(p.numbers, order.Union(m.Sources, []uint64{m.ID}))
	if len(numbers) > api.MaxSource {
		return false
	}
	p.ids, p.numbers = append(p.ids, m.ID), numbers
	return true
}

// inOrder are the live ones in order of Min, among like ones of ID.
func inOrder(es entries) []api.Meta {
	return slices.SortedFunc(es.live, func(a, b api.Meta) int {
		return cmp.Or(cmp.Compare(a.Min, b.Min), cmp.Compare(a.ID, b.ID))
	})
}

func overlap(a, b api.Meta) bool {
	return a.Min <= b.Max && b.Min <= a.Max
}

// overlapping takes the first one that overlaps others of which one fits, and these; ms are in order.
func overlapping(ms []api.Meta) []uint64 {
	for i, a := range ms {
		var p plan
		if !p.take(a) {
			continue
		}
	others:
		for k, b := range ms {
			switch {
			case b.Min > a.Max:
				break others
			case k != i && overlap(a, b):
				p.take(b)
			}
		}
		if len(p.ids) > 1 {
			return p.ids
		}
	}
	return nil
}

// together takes those of the first window that is over and has two or more; ms are in order.
func together(ms []api.Meta, now int64) []uint64 {
	var group []api.Meta
windows:
	for _, m := range ms {
		k := window(m.Min)
		switch {
		case k >= window(now):
			break windows
		case m.Level >= compactedLevel || window(m.Max) != k:
			continue windows
		case len(group) > 0 && window(group[0].Min) != k:
			if len(group) > 1 {
				break windows
			}
			group = nil
		}
		group = append(group, m)
	}
	var p plan
	for _, m := range group {
		p.take(m)
	}
	if len(p.ids) < 2 {
		return nil
	}
	return p.ids
}

// window is the number of the one in which a moment lies, below 0 too.
func window(t int64) int64 {
	k := t / windowWidth
	if t%windowWidth < 0 {
		k--
	}
	return k
}
