package series

import (
	"math"
	"testing"

	"tidewrack/api"
)

// A small list is told by a number of six digits to the base 3, one of each of three label sets at each of two times: 0 is no point, 1 the lesser of two values, 2 the greater. So what the calls answer is told by digits.
const (
	cells = 6
	small = 729
)

func digits(number int) [cells]int {
	var out [cells]int
	for i := range out {
		out[i], number = number%3, number/3
	}
	return out
}

// smallTimes are as far apart as may be.
func smallTimes() [2]int64 {
	return [2]int64{first, final}
}

// cellPoint has values of each cell's own, of which the greater one is the lesser one by sign, or as a float.
func cellPoint(cell, digit int) api.Point {
	values := [cells][2]uint64{
		{1<<63 - 1, 1 << 63}, {0, 1}, {math.Float64bits(1), math.Float64bits(-2)},
		{math.MaxUint64 - 1, math.MaxUint64}, {math.Float64bits(7), api.NaN}, {api.Stale, math.Float64bits(math.Inf(-1))},
	}
	return api.Point{T: smallTimes()[cell%2], V: values[cell][digit-1]}
}

func listOf(ds [cells]int) []api.Series {
	var out []api.Series
	for i, labels := range [][]api.Label{nil, set("a", "x"), set("a", "x", "b", "x")} {
		s := api.Series{Labels: labels}
		for cell := 2 * i; cell < 2*i+2; cell++ {
			if ds[cell] > 0 {
				s.Points = append(s.Points, cellPoint(cell, ds[cell]))
			}
		}
		if len(s.Points) > 0 {
			out = append(out, s)
		}
	}
	return out
}

func smallLists() [small][]api.Series {
	var out [small][]api.Series
	for i := range out {
		out[i] = listOf(digits(i))
	}
	return out
}

// each makes a list's digits out of those of two, one by one.
func each(a, b int, made func(x, y int) int) [cells]int {
	xs, ys := digits(a), digits(b)
	for i := range xs {
		xs[i] = made(xs[i], ys[i])
	}
	return xs
}

func greater(x, y int) int { return max(x, y) }

// without keeps what the other list has no greater value of.
func without(x, y int) int {
	if x < y {
		return 0
	}
	return x
}

func missing(x, y int) int {
	if y > 0 && x != y {
		return 1
	}
	return 0
}

// TestPairsOfSmallLists merges each two, and asks whether one covers the other.
func TestPairsOfSmallLists(t *testing.T) {
	lists := smallLists()
	for i, a := range lists {
		for k, b := range lists {
			m, e := Merge(a, b)
			if want := listOf(each(i, k, greater)); e != api.OK || !alike(m, want) {
				t.Fatalf("P10.1: Merge(%s; %s): %d, %s, not %s", told(a), told(b), e, told(m), told(want))
			}
			if got, want := Covers(a, b), each(i, k, missing) == [cells]int{}; got != want {
				t.Fatalf("P10.2: Covers(%s; %s): %v", told(a), told(b), got)
			}
			if !Covers(m, listOf(each(i, k, without))) {
				t.Fatalf("P10.3: Merge(%s; %s) does not cover what the other has no greater value of: %s", told(a), told(b), told(m))
			}
		}
	}
}

// TestSmallListsAlone: Merge of one list is it, and every part is by its digits.
func TestSmallListsAlone(t *testing.T) {
	times := smallTimes()
	for i, a := range smallLists() {
		if e := Check(a); e != api.OK {
			t.Fatalf("P10.1: Check(%s): %d", told(a), e)
		}
		for _, lists := range [][][]api.Series{{a}, {a, a}, {a, a, a}, {a, nil}, {nil, a, {}, a}} {
			got, e := Merge(lists...)
			wantSeries(t, "P10.3: Merge of one list, copies of it and empty ones", got, e, a)
		}
		for n, from := range times {
			for m, to := range times {
				ds := digits(i)
				for cell := range ds {
					if cell%2 < n || cell%2 > m {
						ds[cell] = 0
					}
				}
				got, e := Clip(a, from, to)
				wantSeries(t, "P10.1: Clip", got, e, listOf(ds))
			}
		}
		ds := digits(i)
		ds[0], ds[1], ds[2], ds[3] = 0, 0, 0, 0
		got, e := Pick(a, []api.Matcher{asks(api.MatchEq, "b", "x")})
		wantSeries(t, "P10.1: Pick", got, e, listOf(ds))
		points := 0
		for _, d := range digits(i) {
			points += min(d, 1)
		}
		if n, k := Count(a); n != len(a) || k != points {
			t.Fatalf("P10.2: Count(%s): %d, %d", told(a), n, k)
		}
	}
}

// TestTriplesOfSmallLists merges each three lists of the middle cells, in every order and grouping.
func TestTriplesOfSmallLists(t *testing.T) {
	lists := smallLists()
	var pairs [27][27][]api.Series
	for i := range 27 {
		for k := range 27 {
			pairs[i][k], _ = Merge(lists[3*i], lists[3*k])
		}
	}
	for number := range 27 * 27 * 27 {
		i, k, n := number/27/27, number/27%27, number%27
		a, b, c := lists[3*i], lists[3*k], lists[3*n]
		ds := each(3*i, 3*k, greater)
		for cell, d := range digits(3 * n) {
			ds[cell] = max(ds[cell], d)
		}
		want := listOf(ds)
		for _, x := range [][][]api.Series{{a, b, c}, {pairs[i][k], c}, {a, pairs[k][n]}, {b, pairs[i][n]}, {a, b, c, a}, {b, a, pairs[n][k], b}} {
			if got, e := Merge(x...); e != api.OK || !alike(got, want) {
				t.Fatalf("P10.3: %s; %s; %s: %d, %s, not %s", told(a), told(b), told(c), e, told(got), told(want))
			}
		}
	}
}
