// Package points asks lists of points: what several layers need of them.
package points

import (
	"sort"

	"tidewrack/api"
)

// Rising asks whether each T is above the one ahead.
func Rising(ps []api.Point) bool {
	for i := range ps {
		if i > 0 && ps[i-1].T >= ps[i].T {
			return false
		}
	}
	return true
}

// InTime asks whether a point may be at t.
func InTime(t int64) bool {
	return t >= -api.MaxTime && t <= api.MaxTime
}

// InOrder asks whether T rises, each from -MaxTime to MaxTime.
func InOrder(ps []api.Point) bool {
	return len(ps) == 0 || InTime(ps[0].T) && InTime(ps[len(ps)-1].T) && Rising(ps)
}

// FirstFrom is the place of the first point whose T is not below t. (Of a list whose T rises, as Between.)
func FirstFrom(ps []api.Point, t int64) int {
	return sort.Search(len(ps), func(i int) bool { return ps[i].T >= t })
}

// Between has the points with T from from to to: a piece of ps, not to be handed out. (There may be no number behind to.)
func Between(ps []api.Point, from int64, to int64) []api.Point {
	ps = ps[FirstFrom(ps, from):]
	return ps[:sort.Search(len(ps), func(i int) bool { return ps[i].T > to })]
}
