package series

import (
	"fmt"
	"slices"
	"testing"
	"time"

	"tidewrack/api"
)

// roomy is a list, each of its lists with something behind its length.
func roomy() []api.Series {
	ss := []api.Series{of(set("a", "x"), run(1, 5, 2, 6)), of(set("a", "x", "b", "u"), run(1, 1)), of(set("a", "y"), run(2, 2, 4, 4, 6, 6))}
	for i, s := range ss {
		ss[i].Labels = append(slices.Clone(s.Labels), set("zz", "behind")...)[:len(s.Labels)]
		ss[i].Points = append(slices.Clone(s.Points), run(77, 1, 1, 1)...)[:len(s.Points)]
	}
	return append(ss, of(set("zz", "behind"), run(77, 1)))[:3]
}

// toldWhole tells what lies behind the lengths, too.
func toldWhole(ss []api.Series) string {
	ss = slices.Clone(ss[:cap(ss)])
	for i, s := range ss {
		ss[i] = of(s.Labels[:cap(s.Labels)], s.Points[:cap(s.Points)])
	}
	return told(ss)
}

type call struct {
	what string
	ask  func(ss []api.Series) ([]api.Series, api.Errno)
}

// calls are those that hand out series.
func calls() []call {
	other := []api.Series{of(set("a", "x"), run(2, 9, 3, 3))}
	ms := []api.Matcher{asks(api.MatchNe, "a", "none"), asks(api.MatchEq, "a", "none")}
	return []call{
		{"Merge", func(ss []api.Series) ([]api.Series, api.Errno) { return Merge(ss) }},
		{"Merge of copies", func(ss []api.Series) ([]api.Series, api.Errno) { return Merge(ss, ss, nil, ss) }},
		{"Merge of two", func(ss []api.Series) ([]api.Series, api.Errno) { return Merge(ss, other) }},
		{"Clip", func(ss []api.Series) ([]api.Series, api.Errno) { return Clip(ss, first, final) }},
		{"Clip to few", func(ss []api.Series) ([]api.Series, api.Errno) { return Clip(ss, 1, 4) }},
		{"Pick", func(ss []api.Series) ([]api.Series, api.Errno) { return Pick(ss, ms[:1]) }},
	}
}

// spoil writes into all lists of an answer, and behind them.
func spoil(ss []api.Series) {
	ss = ss[:cap(ss)]
	for i, s := range ss {
		ls, ps := s.Labels[:cap(s.Labels)], s.Points[:cap(s.Points)]
		for k := range ls {
			ls[k] = api.Label{Name: "spoilt", Value: "s"}
		}
		for k := range ps {
			ps[k] = api.Point{T: 99, V: 99}
		}
		ss[i] = api.Series{}
	}
}

// TestWhatComesIn: neither changed, nor kept, nor read behind its length.
func TestWhatComesIn(t *testing.T) {
	for _, c := range calls() {
		ss := roomy()
		was := toldWhole(ss)
		got, e := c.ask(ss)
		if e != api.OK || toldWhole(ss) != was {
			t.Errorf("R3: %s: %d, changed what was handed in: %s", c.what, e, toldWhole(ss))
		}
		want := told(got)
		spoil(ss)
		if told(got) != want {
			t.Errorf("R3: %s shares memory with what was handed in: %s", c.what, told(got))
		}
		ss = roomy()
		got, _ = c.ask(ss)
		spoil(got)
		if toldWhole(ss) != was {
			t.Errorf("R3: %s hands out what was handed in: %s", c.what, toldWhole(ss))
		}
	}
	ss := roomy()
	was := toldWhole(ss)
	if n, k := Count(ss); n != 3 || k != 6 || Check(ss) != api.OK || !Covers(ss, ss) || toldWhole(ss) != was {
		t.Errorf("R3: Count, Check, Covers: %d, %d, %s", n, k, toldWhole(ss))
	}
}

// TestListsOfLists: what stands behind the lists' number is no list, and the lists stay where they are.
func TestListsOfLists(t *testing.T) {
	a, b := []api.Series{of(set("a", "y"), run(1, 1))}, []api.Series{of(set("a", "x"), run(1, 1))}
	lists := [][]api.Series{a, b, nil, {of(nil, nil)}}
	got, e := Merge(lists[:3]...)
	wantSeries(t, "R3: Merge", got, e, []api.Series{b[0], a[0]})
	if len(lists[0]) != 1 || &lists[0][0] != &a[0] || &lists[1][0] != &b[0] || len(lists[3]) != 1 {
		t.Errorf("R3: Merge changed the list of lists: %v", lists)
	}
}

// TestWhatGoesOut: no two lists of an answer share memory, and nothing stands behind their lengths.
func TestWhatGoesOut(t *testing.T) {
	for _, c := range calls() {
		ss, _ := c.ask(roomy())
		want := told(ss)
		for _, s := range ss[len(ss):cap(ss)] {
			if s.Labels != nil || s.Points != nil {
				t.Errorf("R3: %s: a series behind the answer's length: %v", c.what, s)
			}
		}
		for _, s := range ss {
			for _, p := range s.Points[len(s.Points):cap(s.Points)] {
				if p != (api.Point{}) {
					t.Errorf("R3: %s: a point behind the answer's length: %v", c.what, p)
				}
			}
			for _, l := range s.Labels[len(s.Labels):cap(s.Labels)] {
				if l != (api.Label{}) {
					t.Errorf("R3: %s: a label behind the answer's length: %v", c.what, l)
				}
			}
			_ = append(s.Labels, set("zz", "spoilt")...)
			_ = append(s.Points, run(99, 99)...)
		}
		if told(ss) != want {
			t.Errorf("R3: lists of %s share memory: %s", c.what, told(ss))
		}
		for i := range ss {
			rest := told(ss[i+1:])
			spoil(ss[i : i+1 : i+1])
			if told(ss[i+1:]) != rest {
				t.Errorf("R3: lists of %s share memory: %s", c.what, told(ss))
			}
		}
		if again, e := c.ask(roomy()); e != api.OK || told(again) != want {
			t.Errorf("R3: %s hands out what it keeps: %s", c.what, told(again))
		}
	}
}

// TestRisingStops: whoever has seen enough of the cursors may go, and the lists stand as they stood.
func TestRisingStops(t *testing.T) {
	lists := [][]api.Point{run(1, 1, 4, 4), nil, run(2, 2), run(3, 3, 5, 5)}
	for most := range 6 {
		var seen []int64
		for c := range rising(lists, byTime) {
			if len(seen) == most {
				break
			}
			seen = append(seen, c.here().T)
		}
		if want := []int64{1, 2, 3, 4, 5}[:most]; !slices.Equal(seen, want) {
			t.Errorf("rising: %v, not %v", seen, want)
		}
	}
	if fmt.Sprint(lists) != "[[{1 1} {4 4}] [] [{2 2}] [{3 3} {5 5}]]" {
		t.Errorf("rising changed its lists: %v", lists)
	}
}

func numbered(i int) []api.Label {
	return append(widest()[:15], api.Label{Name: "z", Value: fmt.Sprintf("%07d", i)})
}

func steady(from, step, count int64, v uint64) []api.Point {
	out := make([]api.Point, count)
	for i := range out {
		out[i] = api.Point{T: from + int64(i)*step, V: v}
	}
	return out
}

// copiesOf is a list of MaxSeries series of the widest labels, MaxPoints points each.
func copiesOf(v uint64, from int64) []api.Series {
	var out []api.Series
	ps := steady(from, 2, api.MaxPoints, v)
	for i := range api.MaxSeries {
		out = append(out, of(numbered(i), ps))
	}
	return out
}

// TestFullLists merges three lists as great as a block's, two of the same times and one between.
func TestFullLists(t *testing.T) {
	start := time.Now()
	a, b, c := copiesOf(1, 0), copiesOf(2, 0), copiesOf(3, 1)
	got, e := Merge(a, b, c)
	if n, k := Count(got); e != api.OK || n != api.MaxSeries || k != 2*api.MaxSeries*api.MaxPoints {
		t.Fatalf("P10.1: %d, %d, %d", e, n, k)
	}
	if p := got[1023].Points; p[0] != (api.Point{T: 0, V: 2}) || p[1] != (api.Point{T: 1, V: 3}) || p[16380] != (api.Point{T: 16380, V: 2}) {
		t.Errorf("P10.1: %v, %v, %v", p[0], p[1], p[16380])
	}
	if !Covers(got, b) || !Covers(got, c) || Covers(got, a) {
		t.Error("P10.3: Covers")
	}
	if took := time.Since(start); took > 20*time.Second {
		t.Errorf("three lists of %d series took %v", api.MaxSeries, took)
	}
}

// TestManyOfAll: more series and points than a block may have, and many lists.
func TestManyOfAll(t *testing.T) {
	start := time.Now()
	var many []api.Series
	for i := range 100000 {
		many = append(many, of(set("a", fmt.Sprintf("%07d", i)), run(int64(i), 1)))
	}
	var lists [][]api.Series
	for i := range many {
		// 77777 and 100000 have no divisor in common, so each comes once.
		k := i * 77777 % len(many)
		lists = append(lists, many[k:k+1])
	}
	got, e := Merge(lists...)
	if e != api.OK || !alike(got, many) || !Covers(got, many) {
		t.Errorf("P10.1: Merge of many lists: %d, %d series", e, len(got))
	}
	long := []api.Series{of(nil, steady(-1000000, 3, 1000000, 7))}
	lists = nil
	for i := range 100000 {
		k := i * 77777 % 100000 * 10
		lists = append(lists, []api.Series{of(nil, long[0].Points[k:k+10])})
	}
	got, e = Merge(lists...)
	if e != api.OK || !alike(got, long) || !Covers(got, long) {
		t.Errorf("P10.1: Merge of many pieces: %d, %d series", e, len(got))
	}
	if took := time.Since(start); took > 20*time.Second {
		t.Errorf("100000 lists took %v", took)
	}
}
