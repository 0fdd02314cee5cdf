package head

import (
	"fmt"
	"math"
	"slices"
	"strings"
	"testing"

	"tidewrack/api"
)

func wantFate(t *testing.T, h *Head, s api.Sample, want int) {
	t.Helper()
	if f := h.Fate(s); f != want {
		t.Errorf("P8.2: Fate(%.99q, %d, %x): %d, not %d", s.Labels, s.T, s.V, f, want)
	}
	if f := h.Add(s); f != want {
		t.Errorf("P8.2: Add(%.99q, %d, %x): %d, not %d", s.Labels, s.T, s.V, f, want)
	}
}

func wantCount(t *testing.T, h *Head, series, points int) {
	t.Helper()
	if n, k := h.Count(); n != series || k != points {
		t.Errorf("P8.3: Count: %d, %d, not %d, %d", n, k, series, points)
	}
}

func wantSpan(t *testing.T, h *Head, least, greatest int64, some bool) {
	t.Helper()
	if a, b, ok := h.Span(); a != least || b != greatest || ok != some {
		t.Errorf("P8.3: Span: %d, %d, %v, not %d, %d, %v", a, b, ok, least, greatest, some)
	}
}

// wantAll holds the series that are told as text against all that a head has.
func wantAll(t *testing.T, h *Head, want string) {
	t.Helper()
	if got := told(h.Select(nil, first, final)); got != want {
		t.Errorf("P8.4: Select of all: %s, not %s", got, want)
	}
}

func TestExamples(t *testing.T) {
	h := New(1)
	wantFate(t, h, at(5, 1, "a", "x"), api.FateAdded)
	wantFate(t, h, at(5, 1, "a", "x"), api.FateSame)
	wantFate(t, h, at(5, 2, "a", "x"), api.FateClash)
	wantFate(t, h, at(4, 1, "a", "x"), api.FateOld)
	wantFate(t, h, at(9, 1, "a", "y"), api.FateFull)
	wantFate(t, h, at(6, 1, "a", "x"), api.FateAdded)
	if got := told(h.Cut(6)); got != `[{"a" "x"}][{5 1}] ` {
		t.Errorf("P8.3: Cut(6): %s", got)
	}
	wantSpan(t, h, 6, 6, true)
	wantCount(t, h, 1, 1)
}

func TestEmptyHead(t *testing.T) {
	for _, limit := range []int{-1, 0, 1, 1024} {
		h := New(limit)
		wantCount(t, h, 0, 0)
		wantSpan(t, h, 0, 0, false)
		wantAll(t, h, "")
		if got := h.Cut(final); len(got) != 0 {
			t.Errorf("P8.3: Cut of an empty head: %s", told(got))
		}
	}
}

func numbered(i int) []api.Label {
	return set("__name__", "level", "i", fmt.Sprint(i))
}

func TestLimits(t *testing.T) {
	for _, x := range []struct{ limit, holds int }{
		{math.MinInt, 0}, {-1, 0}, {0, 0}, {1, 1}, {2, 2}, {1023, 1023}, {1024, 1024}, {1025, 1024}, {1 << 32, 1024}, {math.MaxInt, 1024},
	} {
		h := New(x.limit)
		for i := range x.holds {
			wantFate(t, h, api.Sample{Labels: numbered(i), T: 7}, api.FateAdded)
		}
		wantFate(t, h, api.Sample{Labels: numbered(x.holds), T: 7}, api.FateFull)
		wantFate(t, h, api.Sample{T: 8}, api.FateFull)
		wantCount(t, h, x.holds, x.holds)
		if x.holds == 0 {
			continue
		}
		// A full head still takes points of the series that it has.
		wantFate(t, h, api.Sample{Labels: numbered(0), T: 8}, api.FateAdded)
		wantFate(t, h, api.Sample{Labels: numbered(0), T: 8}, api.FateSame)
		wantFate(t, h, api.Sample{Labels: numbered(0), T: 8, V: 1}, api.FateClash)
		wantFate(t, h, api.Sample{Labels: numbered(0), T: 7}, api.FateOld)
		if x.holds > 1 {
			// Series that are gone make room, for others too.
			h.Cut(8)
			wantFate(t, h, api.Sample{Labels: numbered(x.holds), T: -7}, api.FateAdded)
			wantCount(t, h, 2, 2)
		}
	}
}

// wrongSets has lists of labels that may not be.
func wrongSets() [][]api.Label {
	many := []api.Label{}
	for i := range api.MaxLabels + 1 {
		many = append(many, api.Label{Name: string(rune('a' + i)), Value: "x"})
	}
	return [][]api.Label{
		many, make([]api.Label, 1), set("", "x"), set("1", "x"), set("a b", "x"), set("é", "x"), set("a", ""), set("a", "\xff"), set("a", "\xed\xa0\x80"),
		set("b", "x", "a", "x"), set("a", "x", "a", "x"), set("a", "x", "a", "y"), set("a", "x", "b", ""), set("a", "x", "1", "y"),
		set(strings.Repeat("n", api.MaxName+1), "x"), set("a", strings.Repeat("v", api.MaxValue+1)),
	}
}

func TestWrongSamples(t *testing.T) {
	for _, limit := range []int{0, 1, 9} {
		h := New(limit)
		h.Add(at(0, 0, "a", "x"))
		before := told(h.Select(nil, first, final))
		for _, ls := range wrongSets() {
			for _, when := range []int64{-1, 0, 1, first, final} {
				wantFate(t, h, api.Sample{Labels: ls, T: when}, api.FateOld)
			}
		}
		// The series that is there, another, and none.
		for _, ls := range [][]api.Label{set("a", "x"), set("a", "y"), nil} {
			for _, when := range []int64{-api.MaxTime - 1, api.MaxTime + 1, first, first + 1, final, final - 1} {
				wantFate(t, h, api.Sample{Labels: ls, T: when}, api.FateOld)
			}
		}
		wantAll(t, h, before)
	}
}

func TestTimesAtTheEdge(t *testing.T) {
	h := New(2)
	wantFate(t, h, at(-api.MaxTime, 1, "a", "x"), api.FateAdded)
	wantFate(t, h, at(-api.MaxTime, 1, "a", "x"), api.FateSame)
	wantSpan(t, h, -api.MaxTime, -api.MaxTime, true)
	wantFate(t, h, at(api.MaxTime, 2, "a", "x"), api.FateAdded)
	wantFate(t, h, at(api.MaxTime, 2, "a", "y"), api.FateAdded)
	wantSpan(t, h, -api.MaxTime, api.MaxTime, true)
	if got := h.Cut(-api.MaxTime); len(got) != 0 {
		t.Errorf("P8.3: Cut(-MaxTime): %s", told(got))
	}
	if got := h.Cut(first); len(got) != 0 {
		t.Errorf("P8.3: Cut of nothing: %s", told(got))
	}
	if got := told(h.Cut(api.MaxTime)); got != `[{"a" "x"}][{-1099511627776 1}] ` {
		t.Errorf("P8.3: Cut(MaxTime): %s", got)
	}
	wantSpan(t, h, api.MaxTime, api.MaxTime, true)
	if got := told(h.Cut(final)); got != `[{"a" "x"}][{1099511627776 2}] [{"a" "y"}][{1099511627776 2}] ` {
		t.Errorf("P8.3: Cut of all: %s", got)
	}
	wantCount(t, h, 0, 0)
	wantSpan(t, h, 0, 0, false)
}

// TestSetsAtTheEdge takes sets as great as they may be, and sets whose bytes, put one behind the other without lengths, would be the same.
func TestSetsAtTheEdge(t *testing.T) {
	var widest []api.Label
	for i := range api.MaxLabels {
		widest = append(widest, api.Label{Name: strings.Repeat("n", api.MaxName-1) + string(rune('a'+i)), Value: strings.Repeat("v", api.MaxValue)})
	}
	other := slices.Clone(widest)
	other[15].Value = other[15].Value[1:] + "w"
	sets := [][]api.Label{nil, widest, other, widest[:15], set("a", "bc"), set("ab", "c"), set("a", "b", "c", "d"), set("a", "bcd"), set("a", "\x00"), set("a", "b\x01c\x01d"), set("A", "b"), set("a", "b")}
	h, m := New(99), &model{limit: 99}
	for i, ls := range sets {
		s := api.Sample{Labels: ls, T: int64(-i), V: 1}
		wantFate(t, h, s, api.FateAdded)
		wantFate(t, h, s, api.FateSame)
		m.add(s)
	}
	if wrong := fault(h, m); wrong != "" {
		t.Error(wrong)
	}
	wantFate(t, h, api.Sample{Labels: []api.Label{}, T: 0, V: 1}, api.FateSame)
}

// TestValuesAreBits: no value is held against another as a float.
func TestValuesAreBits(t *testing.T) {
	values := []uint64{0, 1 << 63, 1, api.NaN, api.NaN + 1, api.NaN | 1<<63, api.Stale, math.MaxUint64, math.Float64bits(1), math.Float64bits(math.Inf(1))}
	for _, v := range values {
		h := New(1)
		h.Add(at(3, v, "a", "x"))
		for _, w := range values {
			want := api.FateClash
			if v == w {
				want = api.FateSame
			}
			wantFate(t, h, at(3, w, "a", "x"), want)
			wantFate(t, h, at(2, w, "a", "x"), api.FateOld)
		}
		wantAll(t, h, fmt.Sprintf(`[{"a" "x"}][{3 %d}] `, v))
	}
}

// filled has series by the labels a and b, with points at 10, 20 and 30, those of two labels at 20 alone.
func filled(limit int) (*Head, *model) {
	h, m := New(limit), &model{limit: limit}
	for _, when := range []int64{10, 20, 30} {
		for _, ls := range [][]api.Label{set("a", "y"), set("a", "x", "b", "u"), nil, set("a", "x"), set("b", "u"), set("a", "x", "b", "w")} {
			if when == 20 || len(ls) < 2 {
				s := api.Sample{Labels: ls, T: when, V: uint64(when)}
				h.Add(s)
				m.add(s)
			}
		}
	}
	return h, m
}

func TestSelectTimes(t *testing.T) {
	h, m := filled(99)
	times := []int64{first, first + 1, -api.MaxTime, 0, 9, 10, 11, 19, 20, 21, 29, 30, 31, api.MaxTime, final - 1, final}
	for _, from := range times {
		for _, to := range times {
			wantSeries(t, fmt.Sprintf("P8.3: Select(none, %d, %d)", from, to), h.Select(nil, from, to), m.pick(nil, from, to))
			ms := []api.Matcher{of(api.MatchEq, "b", "u")}
			wantSeries(t, fmt.Sprintf("P8.3: Select(b=u, %d, %d)", from, to), h.Select(ms, from, to), m.pick(ms, from, to))
		}
	}
}

// TestSelectMatchers asks by each list of up to two matchers, wrong ones too, ahead of a cut that takes some series and behind it.
func TestSelectMatchers(t *testing.T) {
	h, m := filled(99)
	var all []api.Matcher
	for _, kind := range []int{1, 2, 3, 4, 0, 5, -1, math.MinInt, math.MaxInt} {
		for _, name := range []string{"a", "b", "c", "", "1"} {
			for _, value := range []string{"", "x", "y", "u", "*", "x|y", "|w", "x*"} {
				all = append(all, of(kind, name, value))
			}
		}
	}
	for range 2 {
		for _, x := range all {
			for _, y := range all {
				ms := []api.Matcher{x, y}
				wantSeries(t, fmt.Sprintf("P8.3: Select(%+v)", ms), h.Select(ms, 10, 30), m.pick(ms, 10, 30))
			}
			ms := []api.Matcher{x}
			wantSeries(t, fmt.Sprintf("P8.3: Select(%+v)", ms), h.Select(ms, 10, 30), m.pick(ms, 10, 30))
		}
		h.Cut(21)
		m.cut(21)
	}
}

func TestSelectManyMatchers(t *testing.T) {
	h, _ := filled(99)
	ms := slices.Repeat([]api.Matcher{of(api.MatchEq, "a", "x"), of(api.MatchLike, "b", "*")}, 500)
	if got := h.Select(ms, first, final); len(got) != 3 {
		t.Errorf("P8.3: 1000 matchers: %s", told(got))
	}
	if got := h.Select(append(ms, of(7, "a", "x")), first, final); len(got) != 0 {
		t.Errorf("P8.3: a Kind that is none: %s", told(got))
	}
	long := []api.Matcher{of(api.MatchLike, "a", strings.Repeat("q|", 5000)+"x"), of(api.MatchEq, strings.Repeat("n", 9999), "")}
	if got := h.Select(long, first, final); len(got) != 3 {
		t.Errorf("P8.3: a long pattern: %s", told(got))
	}
}

// TestCutAndAgain: a series that is gone is as if it had never been there.
func TestCutAndAgain(t *testing.T) {
	h := New(2)
	x, y := []api.Matcher{of(api.MatchEq, "a", "x")}, []api.Matcher{of(api.MatchEq, "a", "y")}
	for round := range 3 {
		wantFate(t, h, at(9, 1, "a", "x", "b", "u"), api.FateAdded)
		wantFate(t, h, at(2, 1, "a", "x"), api.FateAdded)
		wantFate(t, h, at(2, 1, "a", "y"), api.FateFull)
		if got := told(h.Cut(3)); got != `[{"a" "x"}][{2 1}] ` {
			t.Errorf("P8.3: round %d: Cut(3): %s", round, got)
		}
		if got := h.Cut(3); len(got) != 0 {
			t.Errorf("P8.3: round %d: Cut(3) again: %s", round, told(got))
		}
		wantFate(t, h, at(1, 5, "a", "y"), api.FateAdded)
		if got := told(h.Select(x, 0, 9)); got != `[{"a" "x"} {"b" "u"}][{9 1}] ` {
			t.Errorf("P8.3: round %d: Select(a=x): %s", round, got)
		}
		if got := told(h.Select(y, 0, 9)); got != `[{"a" "y"}][{1 5}] ` {
			t.Errorf("P8.3: round %d: Select(a=y): %s", round, got)
		}
		if got := told(h.Cut(10)); got != `[{"a" "x"} {"b" "u"}][{9 1}] [{"a" "y"}][{1 5}] ` {
			t.Errorf("P8.3: round %d: Cut(10): %s", round, got)
		}
		wantCount(t, h, 0, 0)
		if len(h.series) != 0 || len(h.postings) != 0 {
			t.Errorf("round %d: what is gone is kept: %d, %d", round, len(h.series), len(h.postings))
		}
	}
}

// TestCutInPieces: what is cut, piece by piece, and what is left are what was there.
func TestCutInPieces(t *testing.T) {
	h, m := New(9), &model{limit: 9}
	for i := range int64(300) {
		s := api.Sample{Labels: numbered(int(i % 7)), T: i * i % 1000 * (i + 1), V: uint64(i)}
		if f, want := h.Add(s), m.add(s); f != want {
			t.Fatalf("P8.2: %v: %d, not %d", s, f, want)
		}
	}
	was := m.pick(nil, first, final)
	points := map[string][]api.Point{}
	take := func(ss []api.Series) {
		for _, s := range ss {
			points[fmt.Sprint(s.Labels)] = append(points[fmt.Sprint(s.Labels)], s.Points...)
		}
	}
	for before := int64(0); before < 200000; before += 999 {
		take(h.Cut(before))
		if least, _, some := h.Span(); some && least < before {
			t.Fatalf("P8.3: Cut(%d) left %d", before, least)
		}
	}
	take(h.Select(nil, first, final))
	for _, s := range was {
		if got := points[fmt.Sprint(s.Labels)]; !slices.Equal(got, s.Points) {
			t.Errorf("P8.4: %v: %v, not %v", s.Labels, got, s.Points)
		}
	}
	if len(points) != len(was) {
		t.Errorf("P8.4: %d series, not %d", len(points), len(was))
	}
}
