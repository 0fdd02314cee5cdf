package series

import (
	"cmp"
	"slices"

	"tidewrack/api"
)

// mergeSeries is the merge of lists that may be.
func mergeSeries(lists [][]api.Series) []api.Series {
	var out []api.Series
	var copies [][][]api.Point // of each series of out: the points that the lists have of it
	for c := range rising(lists, byLabels) {
		s := c.here()
		if last := len(out) - 1; last < 0 || byLabels(out[last], s) != 0 {
			out = append(out, api.Series{Labels: slices.Clone(s.Labels)})
			copies = append(copies, nil)
		}
		last := len(copies) - 1
		copies[last] = append(copies[last], s.Points)
	}
	for i := range out {
		out[i].Points = mergePoints(copies[i])
	}
	return out
}

func mergePoints(lists [][]api.Point) []api.Point {
	var out []api.Point
	for c := range rising(lists, byTime) {
		p := c.here()
		if last := len(out) - 1; last >= 0 && out[last].T == p.T {
			out[last].V = max(out[last].V, p.V)
		} else {
			out = append(out, p)
		}
	}
	return out
}

func byTime(a, b api.Point) int {
	return cmp.Compare(a.T, b.T)
}
