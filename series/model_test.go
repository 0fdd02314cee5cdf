package series

import (
	"fmt"
	"math"
	"slices"
	"sort"
	"strings"
	"testing"

	"tidewrack/api"
	"tidewrack/match"
)

const (
	first = math.MinInt64
	final = math.MaxInt64
)

func set(texts ...string) []api.Label {
	var out []api.Label
	for i := 0; i+1 < len(texts); i += 2 {
		out = append(out, api.Label{Name: texts[i], Value: texts[i+1]})
	}
	return out
}

// run is points: T and V by turns.
func run(numbers ...int64) []api.Point {
	var out []api.Point
	for i := 0; i+1 < len(numbers); i += 2 {
		out = append(out, api.Point{T: numbers[i], V: uint64(numbers[i+1])})
	}
	return out
}

func of(labels []api.Label, ps []api.Point) api.Series {
	return api.Series{Labels: labels, Points: ps}
}

func asks(kind int, name, value string) api.Matcher {
	return api.Matcher{Kind: kind, Name: name, Value: value}
}

func told(ss []api.Series) string {
	var out strings.Builder
	for _, s := range ss {
		fmt.Fprintf(&out, "%q%v ", s.Labels, s.Points)
	}
	return out.String()
}

func alike(a, b []api.Series) bool {
	return slices.EqualFunc(a, b, func(x, y api.Series) bool {
		return slices.Equal(x.Labels, y.Labels) && slices.Equal(x.Points, y.Points)
	})
}

func wantSeries(t *testing.T, what string, got []api.Series, e api.Errno, want []api.Series) {
	t.Helper()
	if e != api.OK || !alike(got, want) {
		t.Errorf("%s: %d, %.500s, not %.500s", what, e, told(got), told(want))
	}
}

func wantRefused(t *testing.T, what string, got []api.Series, e api.Errno) {
	t.Helper()
	if e != api.ErrSeriesForm || len(got) != 0 {
		t.Errorf("%s: %d, %.500s, not ErrSeriesForm", what, e, told(got))
	}
}

// model is a list by its definition: of each label set and each T a V. A set is told by a text that sorts as it does.
type model map[string]map[int64]uint64

// textOf has bytes between names and values that sort below all that may stand in them, but for values that hold such bytes: tests that use a model have none.
func textOf(ls []api.Label) string {
	var out strings.Builder
	for _, l := range ls {
		out.WriteString(l.Name + "\x01" + l.Value + "\x00")
	}
	return out.String()
}

func labelsOf(text string) []api.Label {
	var out []api.Label
	for text != "" {
		one, rest, _ := strings.Cut(text, "\x00")
		name, value, _ := strings.Cut(one, "\x01")
		out, text = append(out, api.Label{Name: name, Value: value}), rest
	}
	return out
}

func (m model) add(ss []api.Series) {
	for _, s := range ss {
		key := textOf(s.Labels)
		if m[key] == nil {
			m[key] = map[int64]uint64{}
		}
		for _, p := range s.Points {
			if v, ok := m[key][p.T]; !ok || v < p.V {
				m[key][p.T] = p.V
			}
		}
	}
}

// list tells the points that are asked for.
func (m model) list(asked func(ls []api.Label, t int64) bool) []api.Series {
	var texts []string
	for text := range m {
		texts = append(texts, text)
	}
	sort.Strings(texts)
	var out []api.Series
	for _, text := range texts {
		s := api.Series{Labels: labelsOf(text)}
		for t, v := range m[text] {
			if asked(s.Labels, t) {
				s.Points = append(s.Points, api.Point{T: t, V: v})
			}
		}
		sort.Slice(s.Points, func(i, k int) bool { return s.Points[i].T < s.Points[k].T })
		if len(s.Points) > 0 {
			out = append(out, s)
		}
	}
	return out
}

func (m model) all() []api.Series {
	return m.list(func([]api.Label, int64) bool { return true })
}

func modelOf(lists ...[]api.Series) model {
	m := model{}
	for _, ss := range lists {
		m.add(ss)
	}
	return m
}

// covers by the model: each point of n is one of m.
func (m model) covers(n model) bool {
	for text, ps := range n {
		for t, v := range ps {
			if w, ok := m[text][t]; !ok || v != w {
				return false
			}
		}
	}
	return true
}

func saysYes(ms []api.Matcher, ls []api.Label) bool {
	for _, m := range ms {
		v := ""
		for _, l := range ls {
			if l.Name == m.Name {
				v = l.Value
			}
		}
		yes := []bool{false, v == m.Value, v != m.Value, match.Like(m.Value, v), !match.Like(m.Value, v)}
		if m.Kind < 1 || m.Kind > 4 || !yes[m.Kind] {
			return false
		}
	}
	return true
}
