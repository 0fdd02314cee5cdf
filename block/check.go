package block

import (
	"tidewrack/api"
	"tidewrack/label"
	"tidewrack/points"
)

func seriesMayBe(ss []api.Series) bool {
	if len(ss) < 1 || len(ss) > api.MaxSeries {
		return false
	}
	for i, s := range ss {
		if !oneMayBe(s) || i > 0 && label.Compare(ss[i-1].Labels, s.Labels) >= 0 {
			return false
		}
	}
	return true
}

func oneMayBe(s api.Series) bool {
	return len(s.Points) >= 1 && len(s.Points) <= api.MaxPoints && points.InOrder(s.Points) && label.Check(s.Labels) == api.OK
}
