package block

import (
	"fmt"
	"math/rand"
	"slices"
	"strings"
	"testing"

	"tidewrack/api"
	"tidewrack/label"
)

func asks(kind int, name, value string) api.Matcher {
	return api.Matcher{Kind: kind, Name: name, Value: value}
}

func wantSelect(t *testing.T, ss []api.Series, ms []api.Matcher, from, to int64) {
	t.Helper()
	b, _ := Encode(ss)
	got, e := Select(b, ms, from, to)
	wantSeries(t, fmt.Sprintf("P9.2: Select(%+v, %d, %d)", ms, from, to), got, e, picked(ss, ms, from, to))
}

// wide are series of like times and unlike labels.
func wide() []api.Series {
	return []api.Series{
		of(nil, run(1, -10, 0, 10)),
		of(set("a", "x"), run(2, 5)),
		of(set("a", "x", "b", "u"), run(3, -10, 5, 10, 20)),
		of(set("a", "y", "b", "u|v"), run(4, 10)),
		of(set("a", "y", "c", "xy*"), run(5, 0, 1, 2, 3, 4)),
		of(set("b", "v"), run(6, -api.MaxTime, api.MaxTime)),
	}
}

func TestSelectTimes(t *testing.T) {
	bounds := []int64{first, first + 1, -api.MaxTime - 1, -api.MaxTime, -api.MaxTime + 1, -11, -10, -9, -1, 0, 1, 2, 3, 4, 5, 6, 9, 10, 11, 20, 21, api.MaxTime - 1, api.MaxTime, api.MaxTime + 1, final - 1, final}
	for _, from := range bounds {
		for _, to := range bounds {
			wantSelect(t, wide(), nil, from, to)
			wantSelect(t, wide(), []api.Matcher{asks(api.MatchEq, "a", "y")}, from, to)
		}
	}
}

func TestSelectMatchers(t *testing.T) {
	var all []api.Matcher
	for _, kind := range []int{api.MatchEq, api.MatchNe, api.MatchLike, api.MatchNot, 0, 5, -1} {
		for _, name := range []string{"a", "b", "c", "d", ""} {
			for _, value := range []string{"", "x", "u|v", "xy*", "*", "x|y", "|v"} {
				all = append(all, asks(kind, name, value))
			}
		}
	}
	b, _ := Encode(wide())
	for _, x := range all {
		for _, ms := range listsOf(1, all...) {
			ms = append(ms, x)
			got, e := Select(b, ms, -5, 10)
			wantSeries(t, fmt.Sprintf("P9.2: Select(%+v)", ms), got, e, picked(wide(), ms, -5, 10))
		}
	}
	many := slices.Repeat([]api.Matcher{asks(api.MatchLike, "a", strings.Repeat("q|", 500)+"x"), asks(api.MatchNe, strings.Repeat("n", 999), "v")}, 50)
	wantSelect(t, wide(), many, first, final)
}

func anySeries(r *rand.Rand) []api.Series {
	var out []api.Series
	for range 1 + r.Intn(12) {
		var ls []api.Label
		for _, name := range []string{"a", "b", "c"} {
			if r.Intn(3) > 0 {
				ls = append(ls, api.Label{Name: name, Value: []string{"a", "b", "x", "xy", "é"}[r.Intn(5)]})
			}
		}
		ps := make([]api.Point, 1+r.Intn(20))
		at := int64(r.Intn(50)) - 40
		for i := range ps {
			ps[i] = api.Point{T: at, V: uint64(r.Intn(3)) << r.Intn(64)}
			at += 1 + int64(r.Intn(3)*r.Intn(100))
		}
		out = append(out, of(ls, ps))
	}
	slices.SortFunc(out, func(a, b api.Series) int { return label.Compare(a.Labels, b.Labels) })
	return slices.CompactFunc(out, func(a, b api.Series) bool { return slices.Equal(a.Labels, b.Labels) })
}

// TestAnySeries: all that is promised of some hundred blocks.
func TestAnySeries(t *testing.T) {
	for seed := range int64(400) {
		r := rand.New(rand.NewSource(seed))
		ss := anySeries(r)
		if !wantAsModel(t, told(ss), bodyOf(ss)) {
			t.Fatalf("P9.2: %s: no block", told(ss))
		}
		for range 10 {
			var ms []api.Matcher
			for range r.Intn(3) {
				ms = append(ms, asks(1+r.Intn(4), []string{"a", "b", "c", "d"}[r.Intn(4)], []string{"", "a", "x", "x*", "é|b", "*"}[r.Intn(6)]))
			}
			wantSelect(t, ss, ms, int64(r.Intn(100))-50, int64(r.Intn(400))-50)
		}
		m, e := Meta(ss, r.Uint64(), r.Intn(9), []uint64{1, 2})
		least, greatest, points := int64(final), int64(first), 0
		for _, s := range ss {
			for _, p := range s.Points {
				least, greatest = min(least, p.T), max(greatest, p.T)
				points++
			}
		}
		if e != api.OK || m.Min != least || m.Max != greatest || m.Series != len(ss) || m.Points != points {
			t.Errorf("P9.3: %s: %v, %d", told(ss), m, e)
		}
	}
}
