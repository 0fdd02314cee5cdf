package block

import (
	"tidewrack/api"
	"tidewrack/label"
	"tidewrack/order"
	"tidewrack/points"
)

// countBound is behind the greatest Level, Series and Points of a meta.
const countBound = 1 << 31

func seriesMayBe(ss []api.Series) bool {
	if len(ss) < 1 || len(ss) > api.MaxSeries {
		return false
	}
	for i, s := range ss {
		if !oneMayBe(s) || i > 0 && label.Compare(ss[i-1].Labels, s.Labels) >= 0 {
			return false
		}
	}
	return true
}

func oneMayBe(s api.Series) bool {
	return len(s.Points) >= 1 && len(s.Points) <= api.MaxPoints && points.InOrder(s.Points) && label.Check(s.Labels) == api.OK
}

func metaMayBe(m api.Meta) bool {
	return isCount(m.Level) && isCount(m.Series) && isCount(m.Points) && m.Min <= m.Max && sourcesMayBe(m.Sources)
}

func isCount(n int) bool {
	return n >= 0 && n < countBound
}

func sourcesMayBe(ids []uint64) bool {
	return len(ids) <= api.MaxSource && order.Rising(ids)
}
