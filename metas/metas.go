// Package metas knows which metas may be: what the layers share that hand them on.
package metas

import (
	"tidewrack/api"
	"tidewrack/order"
)

// CountBound is behind the greatest Level, Series and Points.
const CountBound = 1 << 31

// MayBe asks whether a meta may be, as chapter 9 says it.
func MayBe(m api.Meta) bool {
	return isCount(m.Level) && isCount(m.Series) && isCount(m.Points) && m.Min <= m.Max && sourcesMayBe(m.Sources)
}

func isCount(n int) bool {
	return n >= 0 && n < CountBound
}

func sourcesMayBe(ids []uint64) bool {
	return len(ids) <= api.MaxSource && order.Rising(ids)
}
