package series

import (
	"fmt"
	"math/rand"
	"slices"
	"testing"

	"tidewrack/api"
)

func oneOf[X any](r *rand.Rand, all ...X) X {
	return all[r.Intn(len(all))]
}

func anySet(r *rand.Rand) []api.Label {
	var out []api.Label
	for _, name := range []string{"a", "b", "c"} {
		if r.Intn(3) > 0 {
			out = append(out, api.Label{Name: name, Value: oneOf(r, "x", "y", "xy", "x*", "é")})
		}
	}
	return out
}

// anyList is a list that may be, sorted by the model.
func anyList(r *rand.Rand, most int) []api.Series {
	m := model{}
	for range r.Intn(most + 1) {
		m.add([]api.Series{of(anySet(r), run(int64(r.Intn(12))-4, r.Int63n(3)<<62))})
	}
	return m.all()
}

func anyMatchers(r *rand.Rand) []api.Matcher {
	var out []api.Matcher
	for range r.Intn(4) {
		kind := 1 + r.Intn(4)
		if r.Intn(20) == 0 {
			kind = oneOf(r, 0, 5, -1)
		}
		name := oneOf(r, "a", "a", "b", "b", "c", "c", "d", "")
		out = append(out, asks(kind, name, oneOf(r, "", "x", "y", "xy", "x*", "é", "*", "x|y", "|y")))
	}
	return out
}

func anyBound(r *rand.Rand) int64 {
	return oneOf[int64](r, first, final, int64(r.Intn(14))-5, int64(r.Intn(14))-5, int64(r.Intn(14))-5)
}

// grouped merges lists in groups of groups, as chance has it.
func grouped(r *rand.Rand, lists [][]api.Series) []api.Series {
	lists = slices.Clone(lists)
	for len(lists) > 1 {
		r.Shuffle(len(lists), func(i, k int) { lists[i], lists[k] = lists[k], lists[i] })
		n := 1 + r.Intn(len(lists))
		m, _ := Merge(lists[:n]...)
		lists = append(lists[n:], m)
		if r.Intn(3) == 0 && len(lists) > 1 {
			lists = append(lists, lists[r.Intn(len(lists))])
		}
		if n == 1 && r.Intn(2) == 0 {
			m, _ = Merge(lists...)
			lists = [][]api.Series{m}
		}
	}
	return lists[0]
}

// parted holds Clip and Pick of a merge against the merge of the parts, and both against the model.
func parted(t *testing.T, what string, whole []api.Series, lists [][]api.Series, want []api.Series, part func([]api.Series) ([]api.Series, api.Errno)) {
	t.Helper()
	got, e := part(whole)
	wantSeries(t, "P10.1: "+what, got, e, want)
	var ones [][]api.Series
	for _, ss := range lists {
		one, e := part(ss)
		if e != api.OK || Check(one) != api.OK {
			t.Errorf("P10.1: %s: %d", what, e)
		}
		ones = append(ones, one)
	}
	got, e = Merge(ones...)
	wantSeries(t, "P10.3: Merge of "+what, got, e, want)
}

// TestAnyLists holds lists by chance against the model.
func TestAnyLists(t *testing.T) {
	for seed := range int64(2000) {
		r := rand.New(rand.NewSource(seed))
		var lists [][]api.Series
		for range 1 + r.Intn(8) {
			lists = append(lists, anyList(r, 60))
		}
		m := modelOf(lists...)
		whole, e := Merge(lists...)
		wantSeries(t, fmt.Sprintf("P10.1: Merge, seed %d", seed), whole, e, m.all())
		wantSeries(t, fmt.Sprintf("P10.3: Merge in groups, seed %d", seed), grouped(r, lists), api.OK, whole)
		from, to, ms := anyBound(r), anyBound(r), anyMatchers(r)
		clipped := m.list(func(_ []api.Label, t int64) bool { return from <= t && t <= to })
		parted(t, fmt.Sprintf("Clip(%d, %d), seed %d", from, to, seed), whole, lists, clipped, func(ss []api.Series) ([]api.Series, api.Errno) { return Clip(ss, from, to) })
		picked := m.list(func(ls []api.Label, _ int64) bool { return saysYes(ms, ls) })
		parted(t, fmt.Sprintf("Pick(%v), seed %d", ms, seed), whole, lists, picked, func(ss []api.Series) ([]api.Series, api.Errno) { return Pick(ss, ms) })
		count := 0
		for _, ps := range m {
			count += len(ps)
		}
		if n, k := Count(whole); n != len(m) || k != count {
			t.Errorf("P10.2: Count, seed %d: %d, %d, not %d, %d", seed, n, k, len(m), count)
		}
		if t.Failed() {
			return
		}
	}
}

// thinned is a list without some of its points, and with the bits of one turned, now and then.
func thinned(r *rand.Rand, ss []api.Series) []api.Series {
	var out []api.Series
	for _, s := range ss {
		ps := slices.DeleteFunc(slices.Clone(s.Points), func(api.Point) bool { return r.Intn(3) == 0 })
		if len(ps) > 0 {
			out = append(out, of(s.Labels, ps))
		}
	}
	if len(out) > 0 && r.Intn(3) == 0 {
		ps := out[r.Intn(len(out))].Points
		ps[r.Intn(len(ps))].V ^= 1 << r.Intn(64)
	}
	return out
}

// TestCoversAny asks lists that are nearly covered.
func TestCoversAny(t *testing.T) {
	yes := 0
	for seed := range int64(6000) {
		r := rand.New(rand.NewSource(seed))
		a := anyList(r, 60)
		b := thinned(r, a)
		if r.Intn(4) == 0 {
			b, _ = Merge(b, anyList(r, 1))
		}
		want := modelOf(a).covers(modelOf(b))
		if got := Covers(a, b); got != want {
			t.Fatalf("P10.2: seed %d: Covers(%s; %s): %v", seed, told(a), told(b), got)
		}
		if want {
			yes++
		}
	}
	if yes < 1000 || yes > 5000 {
		t.Errorf("%d of 6000 are covered", yes)
	}
}
