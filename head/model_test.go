package head

import (
	"fmt"
	"slices"
	"sort"
	"strings"
	"testing"

	"tidewrack/api"
	"tidewrack/match"
)

// model is a head by its definition: the samples that were added and are not cut, in the order in which they came.
type model struct {
	limit int
	kept  []api.Sample
}

func set(texts ...string) []api.Label {
	var out []api.Label
	for i := 0; i+1 < len(texts); i += 2 {
		out = append(out, api.Label{Name: texts[i], Value: texts[i+1]})
	}
	return out
}

func at(t int64, v uint64, texts ...string) api.Sample {
	return api.Sample{Labels: set(texts...), T: t, V: v}
}

func of(kind int, name, value string) api.Matcher {
	return api.Matcher{Kind: kind, Name: name, Value: value}
}

// ahead is the order of label sets by another hand.
func ahead(a, b []api.Label) bool {
	for i := range a {
		if i == len(b) {
			return false
		}
		if a[i] != b[i] {
			return a[i].Name < b[i].Name || a[i].Name == b[i].Name && a[i].Value < b[i].Value
		}
	}
	return len(a) < len(b)
}

func (m *model) series() int {
	var seen [][]api.Label
	for _, s := range m.kept {
		if !slices.ContainsFunc(seen, func(ls []api.Label) bool { return slices.Equal(ls, s.Labels) }) {
			seen = append(seen, s.Labels)
		}
	}
	return len(seen)
}

// fate is asked of samples that may be.
func (m *model) fate(s api.Sample) int {
	last := -1
	for i, k := range m.kept {
		if slices.Equal(k.Labels, s.Labels) {
			last = i
		}
	}
	switch {
	case last < 0 && m.series() >= m.limit:
		return api.FateFull
	case last < 0 || s.T > m.kept[last].T:
		return api.FateAdded
	case s.T == m.kept[last].T && s.V == m.kept[last].V:
		return api.FateSame
	case s.T == m.kept[last].T:
		return api.FateClash
	}
	return api.FateOld
}

func (m *model) add(s api.Sample) int {
	f := m.fate(s)
	if f == api.FateAdded {
		m.kept = append(m.kept, s)
	}
	return f
}

// gathered are the series of those samples that are asked for.
func (m *model) gathered(asked func(api.Sample) bool) []api.Series {
	var some []api.Sample
	for _, s := range m.kept {
		if asked(s) {
			some = append(some, s)
		}
	}
	sort.SliceStable(some, func(i, j int) bool { return ahead(some[i].Labels, some[j].Labels) })
	var out []api.Series
	for i, s := range some {
		if i == 0 || !slices.Equal(s.Labels, some[i-1].Labels) {
			out = append(out, api.Series{Labels: s.Labels})
		}
		x := &out[len(out)-1]
		x.Points = append(x.Points, api.Point{T: s.T, V: s.V})
	}
	return out
}

func saysYes(ms []api.Matcher, ls []api.Label) bool {
	for _, m := range ms {
		v := ""
		for _, l := range ls {
			if l.Name == m.Name {
				v = l.Value
			}
		}
		if !(m.Kind == 1 && v == m.Value || m.Kind == 2 && v != m.Value || m.Kind == 3 && match.Like(m.Value, v) || m.Kind == 4 && !match.Like(m.Value, v)) {
			return false
		}
	}
	return true
}

func (m *model) pick(ms []api.Matcher, from, to int64) []api.Series {
	return m.gathered(func(s api.Sample) bool { return from <= s.T && s.T <= to && saysYes(ms, s.Labels) })
}

func (m *model) cut(before int64) []api.Series {
	out := m.gathered(func(s api.Sample) bool { return s.T < before })
	m.kept = slices.DeleteFunc(m.kept, func(s api.Sample) bool { return s.T < before })
	return out
}

func (m *model) span() (int64, int64, bool) {
	if len(m.kept) == 0 {
		return 0, 0, false
	}
	least, greatest := m.kept[0].T, m.kept[0].T
	for _, s := range m.kept {
		least, greatest = min(least, s.T), max(greatest, s.T)
	}
	return least, greatest, true
}

func told(ss []api.Series) string {
	var out strings.Builder
	for _, s := range ss {
		fmt.Fprintf(&out, "%q%v ", s.Labels, s.Points)
	}
	return out.String()
}

// unlike tells where two lists of series are not the same.
func unlike(what string, got, want []api.Series) string {
	same := slices.EqualFunc(got, want, func(a, b api.Series) bool {
		return slices.Equal(a.Labels, b.Labels) && slices.Equal(a.Points, b.Points)
	})
	if same {
		return ""
	}
	return fmt.Sprintf("%s: %.500s, not %.500s", what, told(got), told(want))
}

func wantSeries(t *testing.T, what string, got, want []api.Series) {
	t.Helper()
	if fault := unlike(what, got, want); fault != "" {
		t.Error(fault)
	}
}

const (
	first = -1 << 63
	final = 1<<63 - 1
)

// fault tells where a head and a model are not alike in all that is asked without matchers.
func fault(h *Head, m *model) string {
	if n, k := h.Count(); n != m.series() || k != len(m.kept) {
		return fmt.Sprintf("P8.3: Count: %d, %d, not %d, %d", n, k, m.series(), len(m.kept))
	}
	a, b, ok := h.Span()
	if x, y, some := m.span(); a != x || b != y || ok != some {
		return fmt.Sprintf("P8.3: Span: %d, %d, %v, not %d, %d, %v", a, b, ok, x, y, some)
	}
	return unlike("P8.4: Select of all", h.Select(nil, first, final), m.pick(nil, first, final))
}

// step is a sample that is added, or a cut.
type step struct {
	sample api.Sample
	cuts   bool
	before int64
}

// play does a step on both, and tells where they do not answer alike.
func play(h *Head, m *model, s step) string {
	if s.cuts {
		return unlike(fmt.Sprintf("P8.3: Cut(%d)", s.before), h.Cut(s.before), m.cut(s.before))
	}
	asked, added, want := h.Fate(s.sample), h.Add(s.sample), m.add(s.sample)
	if asked != want || added != want {
		return fmt.Sprintf("P8.2: %+v: Fate: %d, Add: %d, not %d", s.sample, asked, added, want)
	}
	return ""
}
