package head

import (
	"fmt"
	"slices"
	"strings"
	"testing"
	"time"

	"tidewrack/api"
)

// TestWhatComesIn: neither changed, nor kept, nor read behind its length.
func TestWhatComesIn(t *testing.T) {
	room := set("a", "x", "b", "u", "c", "q")
	h := New(9)
	s := api.Sample{Labels: room[:2], T: 1, V: 1}
	h.Fate(s)
	h.Add(s)
	if fmt.Sprint(room) != "[{a x} {b u} {c q}]" {
		t.Errorf("R3: Add changed its sample: %v", room)
	}
	room[0].Value, room[1].Name = "y", "z"
	wantAll(t, h, `[{"a" "x"} {"b" "u"}][{1 1}] `)
	wantFate(t, h, at(1, 1, "a", "x", "b", "u"), api.FateSame)
	wantFate(t, h, at(1, 1, "a", "y", "z", "u"), api.FateAdded)

	ms := []api.Matcher{of(api.MatchLike, "a", "x|y"), of(api.MatchEq, "b", "u"), of(api.MatchEq, "a", "none")}
	if got := told(h.Select(ms[:2], 0, 9)); got != `[{"a" "x"} {"b" "u"}][{1 1}] ` {
		t.Errorf("R3: Select: %s", got)
	}
	if fmt.Sprint(ms) != "[{3 a x|y} {1 b u} {1 a none}]" {
		t.Errorf("R3: Select changed its matchers: %v", ms)
	}
}

// spoil writes into all that was handed out, and behind it.
func spoil(ss []api.Series) {
	for i := range ss {
		ls, ps := ss[i].Labels, ss[i].Points
		ls, ps = ls[:cap(ls)], ps[:cap(ps)]
		for k := range ls {
			ls[k] = api.Label{Name: "spoilt", Value: "s"}
		}
		for k := range ps {
			ps[k] = api.Point{T: 99, V: 99}
		}
	}
	ss = ss[:cap(ss)]
	for i := range ss {
		ss[i] = api.Series{}
	}
}

// TestWhatGoesOut: new memory each time, and no list shares another's.
func TestWhatGoesOut(t *testing.T) {
	h, m := filled(99)
	spoil(h.Select(nil, first, final))
	spoil(h.Select([]api.Matcher{of(api.MatchEq, "a", "x")}, 10, 20))
	if wrong := fault(h, m); wrong != "" {
		t.Errorf("R3: behind Select: %s", wrong)
	}
	spoil(h.Cut(20))
	m.cut(20)
	if wrong := fault(h, m); wrong != "" {
		t.Errorf("R3: behind Cut: %s", wrong)
	}
	for _, ss := range [][]api.Series{h.Select(nil, first, final), h.Cut(final)} {
		want := told(ss)
		for _, one := range ss {
			for _, p := range one.Points[len(one.Points):cap(one.Points)] {
				if p != (api.Point{}) {
					t.Errorf("R3: a point behind an answer's length: %v", p)
				}
			}
			_ = append(one.Labels, api.Label{Name: "spoilt", Value: "s"})
			_ = append(one.Points, api.Point{T: 99, V: 99})
		}
		if got := told(ss); got != want {
			t.Errorf("R3: lists of one answer share memory: %s", got)
		}
	}
}

// TestPointsOfACutAnswer: points that are added later are not laid behind those that were handed out.
func TestPointsOfACutAnswer(t *testing.T) {
	h := New(1)
	for i := range int64(5) {
		h.Add(at(i, uint64(i), "a", "x"))
	}
	seen, gone := h.Select(nil, 0, 9), h.Cut(3)
	for i := range int64(20) {
		h.Add(at(i+5, uint64(i+5), "a", "x"))
	}
	if told(seen) != `[{"a" "x"}][{0 0} {1 1} {2 2} {3 3} {4 4}] ` || told(gone) != `[{"a" "x"}][{0 0} {1 1} {2 2}] ` {
		t.Errorf("R3: %s, %s", told(seen), told(gone))
	}
}

func TestHeadsByThemselves(t *testing.T) {
	a, b := New(1), New(1)
	a.Add(at(1, 1, "a", "x"))
	wantCount(t, b, 0, 0)
	wantFate(t, b, at(2, 2, "a", "y"), api.FateAdded)
	a.Cut(9)
	wantAll(t, b, `[{"a" "y"}][{2 2}] `)
}

// wide are sets as long as they may be, unlike in their last label alone.
func wide(i int) []api.Label {
	var out []api.Label
	for k := range api.MaxLabels {
		out = append(out, api.Label{Name: strings.Repeat("n", api.MaxName-1) + string(rune('a'+k)), Value: strings.Repeat("v", api.MaxValue)})
	}
	out[15].Value = out[15].Value[:252] + fmt.Sprintf("%04d", i)
	return out
}

// TestSize: what is asked of a full head ends in a time that its size explains.
func TestSize(t *testing.T) {
	start := time.Now()
	h := New(api.MaxSeries)
	for i := range api.MaxSeries {
		// 389 is odd, so each number below 1024 comes once.
		wantFate(t, h, api.Sample{Labels: wide(i * 389 % api.MaxSeries), T: int64(i) / 2, V: 1}, api.FateAdded)
	}
	ms := []api.Matcher{of(api.MatchEq, wide(0)[0].Name, wide(0)[0].Value), of(api.MatchLike, wide(0)[15].Name, "*7")}
	if got := h.Select(ms, first, final); len(got) != 102 {
		t.Errorf("P8.3: %d series", len(got))
	}
	got := h.Cut(256)
	if len(got) != 512 || !slices.IsSortedFunc(got, func(a, b api.Series) int { return strings.Compare(a.Labels[15].Value, b.Labels[15].Value) }) {
		t.Errorf("P8.3: %d series", len(got))
	}
	wantCount(t, h, 512, 512)
	if got = h.Cut(final); len(got) != 512 {
		t.Errorf("P8.3: %d series", len(got))
	}
	if took := time.Since(start); took > 20*time.Second {
		t.Errorf("a head of MaxSeries series took %v", took)
	}
}

// TestPostings: a matcher that asks for a value spares the series that do not have it, wherever it stands in its list.
func TestPostings(t *testing.T) {
	h := New(api.MaxSeries)
	for i := range 1000 {
		h.Add(api.Sample{Labels: set("a", fmt.Sprint(i%10), "i", fmt.Sprint(i))})
	}
	all, some, one := of(api.MatchNe, "a", "x"), of(api.MatchEq, "a", "7"), of(api.MatchEq, "i", "707")
	for _, x := range []struct {
		looked int
		ms     []api.Matcher
	}{
		{1000, nil}, {1000, []api.Matcher{all}}, {1000, []api.Matcher{of(api.MatchEq, "z", "")}},
		{100, []api.Matcher{some}}, {100, []api.Matcher{all, some}}, {1, []api.Matcher{some, one}}, {1, []api.Matcher{one, all, some}}, {0, []api.Matcher{one, of(api.MatchEq, "a", "x")}},
	} {
		if got := len(h.likely(x.ms)); got != x.looked {
			t.Errorf("%+v: %d series are looked at, not %d", x.ms, got, x.looked)
		}
		if got := len(h.Select(x.ms, 0, 0)); got != x.looked {
			t.Errorf("P8.3: %+v: %d series, not %d", x.ms, got, x.looked)
		}
	}
}

// TestManyPoints: a long series is asked by places, not point by point.
func TestManyPoints(t *testing.T) {
	start := time.Now()
	h := New(1)
	const n = 500000
	for i := range int64(n) {
		if f := h.Add(at(2*i, uint64(i), "a", "x")); f != api.FateAdded {
			t.Fatalf("P8.2: point %d: %d", i, f)
		}
	}
	for i := range int64(n) {
		if got := h.Select(nil, 2*i-1, 2*i+1); len(got) != 1 || len(got[0].Points) != 1 || got[0].Points[0].V != uint64(i) {
			t.Fatalf("P8.3: point %d: %s", i, told(got))
		}
	}
	wantCount(t, h, 1, n)
	if got := h.Cut(n); len(got) != 1 || len(got[0].Points) != n/2 {
		t.Errorf("P8.3: Cut of half")
	}
	wantSpan(t, h, n, 2*n-2, true)
	if took := time.Since(start); took > 20*time.Second {
		t.Errorf("%d points took %v", n, took)
	}
}
