package head

import (
	"slices"
	"sort"

	"tidewrack/api"
)

// last is the newest point of a series: in a table each has one.
func last(series *api.Series) api.Point {
	return series.Points[len(series.Points)-1]
}

// firstFrom is the place of the first point whose T is not below t.
func firstFrom(points []api.Point, t int64) int {
	return sort.Search(len(points), func(i int) bool { return points[i].T >= t })
}

// between has the points with T from from to to. (There may be no number behind to.)
func between(points []api.Point, from int64, to int64) []api.Point {
	points = points[firstFrom(points, from):]
	return points[:sort.Search(len(points), func(i int) bool { return points[i].T > to })]
}

func copied(labels []api.Label, points []api.Point) api.Series {
	return api.Series{Labels: slices.Clone(labels), Points: slices.Clone(points)}
}
