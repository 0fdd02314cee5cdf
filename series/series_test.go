package series

import (
	"fmt"
	"math"
	"slices"
	"strings"
	"testing"

	"tidewrack/api"
)

func TestExample(t *testing.T) {
	a := []api.Series{of(set("a", "x"), run(1, 5, 2, 6))}
	b := []api.Series{of(set("a", "x"), run(2, 7, 3, 1))}
	c := []api.Series{of(set("a", "y"), run(1, 1))}
	want := []api.Series{of(set("a", "x"), run(1, 5, 2, 7, 3, 1)), of(set("a", "y"), run(1, 1))}
	for _, lists := range [][][]api.Series{{a, b, c}, {c, b, a}, {b, c, a, b}} {
		got, e := Merge(lists...)
		wantSeries(t, "P10.1: Merge", got, e, want)
	}
}

// TestNothing: of no lists, of empty ones, of no series.
func TestNothing(t *testing.T) {
	for _, lists := range [][][]api.Series{nil, {}, {nil}, {{}}, {nil, {}, nil}} {
		got, e := Merge(lists...)
		wantSeries(t, "P10.1: Merge of nothing", got, e, nil)
	}
	one := []api.Series{of(nil, run(0, 0))}
	for _, none := range [][]api.Series{nil, {}} {
		if e := Check(none); e != api.OK {
			t.Errorf("P10.1: Check of nothing: %d", e)
		}
		got, e := Clip(none, first, final)
		wantSeries(t, "P10.1: Clip of nothing", got, e, nil)
		got, e = Pick(none, nil)
		wantSeries(t, "P10.1: Pick of nothing", got, e, nil)
		if n, k := Count(none); n != 0 || k != 0 {
			t.Errorf("P10.2: Count of nothing: %d, %d", n, k)
		}
		if !Covers(none, none) || !Covers(one, none) || Covers(none, one) {
			t.Error("P10.2: Covers of nothing")
		}
	}
}

// widest is a set as great as may be.
func widest() []api.Label {
	var out []api.Label
	for i := range api.MaxLabels {
		out = append(out, api.Label{Name: strings.Repeat("n", api.MaxName-1) + string(rune('a'+i)), Value: strings.Repeat("v", api.MaxValue)})
	}
	return out
}

// good is a list at the edges of what may be: the empty set, sets unlike at their end alone, times as far apart as they go.
func good() []api.Series {
	other := widest()
	other[15].Value = other[15].Value[1:] + "w"
	return []api.Series{
		of(nil, run(first, 1, final, 2)),
		of(set("A", "x"), run(final, 3)),
		of(set("a", "x"), run(-api.MaxTime-1, 0, -1, 0, 0, -1, 1, 1, api.MaxTime+1, 0)),
		of(set("a", "x", "b", "x"), run(first, 3)),
		of(set("a", "é"), run(first, 4, first+1, 5, final-1, 6, final, 7)),
		of(widest()[:15], run(5, 5)),
		of(widest(), run(5, 5)),
		of(other, run(5, 6)),
	}
}

func TestListsAtTheEdge(t *testing.T) {
	ss := good()
	if e := Check(ss); e != api.OK {
		t.Fatalf("P10.1: Check: %d", e)
	}
	got, e := Merge(ss)
	wantSeries(t, "P10.1: Merge", got, e, ss)
	got, e = Merge(ss[4:], nil, ss[:3], ss[2:6])
	wantSeries(t, "P10.1: Merge of pieces", got, e, ss)
	got, e = Clip(ss, first, final)
	wantSeries(t, "P10.1: Clip", got, e, ss)
	got, e = Pick(ss, nil)
	wantSeries(t, "P10.1: Pick", got, e, ss)
	if !Covers(ss, ss) || !Covers(ss, ss[3:]) || Covers(ss[1:], ss) {
		t.Error("P10.2: Covers")
	}
	if n, k := Count(ss); n != 8 || k != 16 {
		t.Errorf("P10.2: Count: %d, %d", n, k)
	}
}

// wrongOnes has series that may be in no list.
func wrongOnes() []api.Series {
	many := append(widest(), set("z", "x")...)
	var out []api.Series
	for _, labels := range [][]api.Label{
		many, set("", "x"), set("1", "x"), set("a b", "x"), set("é", "x"), set("a", ""), set("a", "\xff"), set("a", "\xed\xa0\x80"),
		set("b", "x", "a", "x"), set("a", "x", "a", "x"), set("a", "x", "a", "y"), set("a", "x", "b", ""), set("a", "x", "1", "y"),
		set(strings.Repeat("n", api.MaxName+1), "x"), set("a", strings.Repeat("v", api.MaxValue+1)),
	} {
		out = append(out, of(labels, run(1, 1)))
	}
	for _, ps := range [][]api.Point{
		nil, {}, run(1, 1, 1, 1), run(1, 1, 1, 2), run(2, 1, 1, 1), run(1, 1, 2, 1, 2, 1), run(1, 1, 3, 1, 2, 1), run(2, 1, 1, 1, 3, 1),
		run(final, 1, first, 1), run(first, 1, first, 1), run(final, 1, final, 1), run(0, 1, final, 1, first, 1), run(0, 0, 0, 0, 1, 0),
	} {
		out = append(out, of(set("a", "x"), ps))
	}
	return out
}

// wrongLists has lists that may not be, by a fault in any place.
func wrongLists() [][]api.Series {
	var out [][]api.Series
	for _, s := range wrongOnes() {
		out = append(out, []api.Series{s})
		for at := range 3 {
			ss := []api.Series{of(nil, run(1, 1)), of(set("A", "x"), run(1, 1)), of(set("zz", "x"), run(1, 1))}
			if at == 0 {
				ss[1] = of(set("zy", "x"), run(1, 1))
			}
			ss[at] = s
			out = append(out, ss)
		}
	}
	edge := good()
	for i := range edge {
		for k := range i {
			swapped := slices.Clone(edge)
			swapped[i], swapped[k] = swapped[k], swapped[i]
			out = append(out, swapped, []api.Series{edge[i], edge[k]})
		}
		twice := slices.Insert(slices.Clone(edge), i, edge[i])
		out = append(out, twice, []api.Series{edge[i], of(edge[i].Labels, run(9, 9))})
	}
	return out
}

func TestWrongLists(t *testing.T) {
	fine := good()
	for _, bad := range wrongLists() {
		what := fmt.Sprintf("%.300s", told(bad))
		if e := Check(bad); e != api.ErrSeriesForm {
			t.Errorf("P10.1: Check(%s): %d", what, e)
		}
		for _, lists := range [][][]api.Series{{bad}, {bad, fine}, {fine, bad}, {fine, bad, nil, fine}, {bad, bad}, {nil, bad}} {
			got, e := Merge(lists...)
			wantRefused(t, "P10.1: Merge with "+what, got, e)
		}
		for _, span := range [][2]int64{{first, final}, {0, 9}, {9, 0}, {final, final}} {
			got, e := Clip(bad, span[0], span[1])
			wantRefused(t, "P10.1: Clip of "+what, got, e)
		}
		for _, ms := range [][]api.Matcher{nil, {asks(api.MatchEq, "a", "none")}, {asks(0, "a", "x")}} {
			got, e := Pick(bad, ms)
			wantRefused(t, "P10.1: Pick of "+what, got, e)
		}
		if Covers(bad, nil) || Covers(nil, bad) || Covers(bad, bad) || Covers(fine, bad) || Covers(bad, fine) {
			t.Errorf("P10.2: Covers with %s", what)
		}
		points := 0
		for _, s := range bad {
			points += len(s.Points)
		}
		if n, k := Count(bad); n != len(bad) || k != points {
			t.Errorf("P10.2: Count(%s): %d, %d", what, n, k)
		}
	}
}

func TestClip(t *testing.T) {
	ss := []api.Series{of(nil, run(first, 1, 0, 2)), of(set("a", "x"), run(-5, 3, 5, 4, final, 5)), of(set("a", "y"), run(0, 6))}
	for _, x := range []struct {
		from, to int64
		want     []api.Series
	}{
		{first, final, ss},
		{first, first, []api.Series{of(nil, run(first, 1))}},
		{first + 1, final - 1, []api.Series{of(nil, run(0, 2)), of(set("a", "x"), run(-5, 3, 5, 4)), ss[2]}},
		{final, final, []api.Series{of(set("a", "x"), run(final, 5))}},
		{0, 0, []api.Series{of(nil, run(0, 2)), ss[2]}},
		{-5, 5, []api.Series{of(nil, run(0, 2)), of(set("a", "x"), run(-5, 3, 5, 4)), ss[2]}},
		{-4, 4, []api.Series{of(nil, run(0, 2)), ss[2]}},
		{5, 5, []api.Series{of(set("a", "x"), run(5, 4))}},
		{1, 4, nil}, {6, final - 1, nil}, {5, -5, nil}, {1, 0, nil}, {0, -1, nil}, {final, first, nil},
	} {
		got, e := Clip(ss, x.from, x.to)
		wantSeries(t, fmt.Sprintf("P10.1: Clip(%d, %d)", x.from, x.to), got, e, x.want)
	}
}

func TestPick(t *testing.T) {
	ss := []api.Series{of(nil, run(1, 1)), of(set("a", "x"), run(1, 2, 2, 3)), of(set("a", "x", "b", "u"), run(1, 4)), of(set("a", "y"), run(7, 5)), of(set("b", "u"), run(1, 6))}
	for _, x := range []struct {
		ms   []api.Matcher
		want []int
	}{
		{nil, []int{0, 1, 2, 3, 4}}, {[]api.Matcher{}, []int{0, 1, 2, 3, 4}},
		{[]api.Matcher{asks(api.MatchEq, "a", "x")}, []int{1, 2}},
		{[]api.Matcher{asks(api.MatchNe, "a", "x")}, []int{0, 3, 4}},
		{[]api.Matcher{asks(api.MatchEq, "a", "")}, []int{0, 4}},
		{[]api.Matcher{asks(api.MatchNe, "a", "")}, []int{1, 2, 3}},
		{[]api.Matcher{asks(api.MatchLike, "a", "*")}, []int{0, 1, 2, 3, 4}},
		{[]api.Matcher{asks(api.MatchLike, "a", "y|")}, []int{0, 3, 4}},
		{[]api.Matcher{asks(api.MatchNot, "a", "y|")}, []int{1, 2}},
		{[]api.Matcher{asks(api.MatchEq, "a", "x"), asks(api.MatchEq, "b", "u")}, []int{2}},
		{[]api.Matcher{asks(api.MatchEq, "a", "x"), asks(api.MatchEq, "b", "w")}, nil},
		// Of matchers that may not be, too.
		{[]api.Matcher{asks(0, "a", "x")}, nil}, {[]api.Matcher{asks(5, "a", "x")}, nil}, {[]api.Matcher{asks(-1, "", "")}, nil},
		{[]api.Matcher{asks(api.MatchEq, "", "")}, []int{0, 1, 2, 3, 4}},
		{slices.Repeat([]api.Matcher{asks(api.MatchEq, "b", "u")}, api.MaxMatchers+1), []int{2, 4}},
		{[]api.Matcher{asks(api.MatchLike, "a", strings.Repeat("z|", api.MaxPattern)+"y")}, []int{3}},
	} {
		var want []api.Series
		for _, i := range x.want {
			want = append(want, ss[i])
		}
		got, e := Pick(ss, x.ms)
		wantSeries(t, fmt.Sprintf("P10.1: Pick(%.99v)", x.ms), got, e, want)
	}
}

// TestGreatestValue: values are numbers without sign, neither floats nor numbers with one.
func TestGreatestValue(t *testing.T) {
	values := []uint64{0, 1, math.Float64bits(1), math.Float64bits(2), math.Float64bits(math.Inf(1)), api.Stale, api.NaN, 1<<63 - 1, 1 << 63, math.Float64bits(-1), math.Float64bits(-2), math.Float64bits(math.Inf(-1)), api.NaN | 1<<63, math.MaxUint64}
	if !slices.IsSorted(values) {
		t.Fatal("the values do not rise")
	}
	for i, v := range values {
		for k, w := range values {
			a, b := []api.Series{of(nil, []api.Point{{T: 3, V: v}})}, []api.Series{of(nil, []api.Point{{T: 3, V: w}})}
			got, e := Merge(a, b)
			wantSeries(t, "P10.1: Merge", got, e, []api.Series{of(nil, []api.Point{{T: 3, V: values[max(i, k)]}})})
			if Covers(a, b) != (i == k) {
				t.Errorf("P10.2: Covers of %x and %x", v, w)
			}
		}
	}
}

func TestCovers(t *testing.T) {
	a := []api.Series{of(set("a", "x"), run(1, 5, 2, 6, 9, 7)), of(set("a", "y"), run(4, 1))}
	for _, x := range []struct {
		b    []api.Series
		want bool
	}{
		{a, true}, {a[:1], true}, {a[1:], true}, {nil, true},
		{[]api.Series{of(set("a", "x"), run(1, 5))}, true}, {[]api.Series{of(set("a", "x"), run(2, 6))}, true}, {[]api.Series{of(set("a", "x"), run(9, 7))}, true},
		{[]api.Series{of(set("a", "x"), run(1, 5, 9, 7)), a[1]}, true},
		{[]api.Series{of(set("a", "x"), run(1, 4))}, false}, {[]api.Series{of(set("a", "x"), run(1, 6))}, false}, {[]api.Series{of(set("a", "x"), run(1, 5, 2, 5, 9, 7))}, false},
		{[]api.Series{of(set("a", "x"), run(0, 5))}, false}, {[]api.Series{of(set("a", "x"), run(3, 7))}, false}, {[]api.Series{of(set("a", "x"), run(10, 7))}, false},
		{[]api.Series{of(set("a", "x"), run(1, 5, 2, 6, 9, 7, 10, 7))}, false}, {[]api.Series{of(set("a", "x"), run(1, 5, 3, 6, 9, 7))}, false},
		{[]api.Series{of(set("a", "x", "b", "x"), run(1, 5))}, false}, {[]api.Series{of(nil, run(1, 5))}, false}, {[]api.Series{of(set("a", "z"), run(4, 1))}, false}, {[]api.Series{of(set("b", "x"), run(1, 5))}, false},
		{[]api.Series{a[0], of(set("a", "y"), run(4, 2))}, false}, {[]api.Series{a[0], a[1], of(set("a", "z"), run(4, 1))}, false},
	} {
		if got := Covers(a, x.b); got != x.want {
			t.Errorf("P10.2: Covers(%s; %s): %v", told(a), told(x.b), got)
		}
	}
}
