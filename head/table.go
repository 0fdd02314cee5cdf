package head

import (
	"slices"

	"tidewrack/api"
	"tidewrack/label"
)

// A table holds series by their labels' bytes, and beside that postings: of each label the series that have it, sorted by labels, so that nothing need be sorted when it is asked.
type table struct {
	series   map[string]*api.Series
	postings map[api.Label][]*api.Series
}

func newTable() table {
	return table{map[string]*api.Series{}, map[api.Label][]*api.Series{}}
}

// key is where a series stands in the map.
func key(labels []api.Label) string {
	return string(label.Encode(labels))
}

// posts are the labels under which a series is posted: its own, and the one without name and value, which no set can have and all series are posted under.
func posts(labels []api.Label) []api.Label {
	return append([]api.Label{{}}, labels...)
}

// all has every series.
func (t *table) all() []*api.Series {
	return t.postings[api.Label{}]
}

// find is nil if there is no such series.
func (t *table) find(labels []api.Label) *api.Series {
	return t.series[key(labels)]
}

// enter takes a new series in, whose first point the caller has to add.
func (t *table) enter(labels []api.Label) *api.Series {
	series := &api.Series{Labels: slices.Clone(labels)}
	t.series[key(labels)] = series
	for _, l := range posts(labels) {
		t.post(l, series)
	}
	return series
}

func (t *table) post(l api.Label, series *api.Series) {
	list := t.postings[l]
	at, _ := slices.BinarySearchFunc(list, series, byLabels)
	t.postings[l] = slices.Insert(list, at, series)
}

func byLabels(a *api.Series, b *api.Series) int {
	return label.Compare(a.Labels, b.Labels)
}

// likely is the shortest posting in which all series stand that the matchers may say yes to. A matcher that asks for no value asks for series that are posted nowhere by its name.
func (t *table) likely(ms []api.Matcher) []*api.Series {
	best := t.all()
	for _, m := range ms {
		if m.Kind != api.MatchEq || m.Value == "" {
			continue
		}
		list := t.postings[api.Label{Name: m.Name, Value: m.Value}]
		if len(list) < len(best) {
			best = list
		}
	}
	return best
}

// dropEmpty takes the series without points out. Each posting is thinned once, however many of its series go.
func (t *table) dropEmpty() {
	touched := map[api.Label]struct{}{}
	for _, series := range t.all() {
		if !isEmpty(series) {
			continue
		}
		delete(t.series, key(series.Labels))
		for _, l := range posts(series.Labels) {
			touched[l] = struct{}{}
		}
	}
	for l := range touched {
		t.thin(l)
	}
}

func (t *table) thin(l api.Label) {
	left := slices.DeleteFunc(t.postings[l], isEmpty)
	if len(left) == 0 {
		delete(t.postings, l)
		return
	}
	t.postings[l] = left
}

func isEmpty(series *api.Series) bool {
	return len(series.Points) == 0
}
