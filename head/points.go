package head

import (
	"slices"

	"tidewrack/api"
)

// last is the newest point of a series: in a table each has one.
func last(series *api.Series) api.Point {
	return series.Points[len(series.Points)-1]
}

func copied(labels []api.Label, ps []api.Point) api.Series {
	return api.Series{Labels: slices.Clone(labels), Points: slices.Clone(ps)}
}
