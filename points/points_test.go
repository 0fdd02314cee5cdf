package points

import (
	"math"
	"slices"
	"testing"

	"tidewrack/api"
)

func at(times ...int64) []api.Point {
	var out []api.Point
	for i, t := range times {
		out = append(out, api.Point{T: t, V: uint64(i)})
	}
	return out
}

func TestInTime(t *testing.T) {
	for _, x := range []struct {
		t    int64
		want bool
	}{
		{0, true}, {1, true}, {-1, true}, {1 << 40, true}, {-1 << 40, true}, {1<<40 - 1, true}, {1 - 1<<40, true},
		{1<<40 + 1, false}, {-1<<40 - 1, false}, {math.MinInt64, false}, {math.MaxInt64, false},
	} {
		if got := InTime(x.t); got != x.want {
			t.Errorf("InTime(%d): %v", x.t, got)
		}
	}
}

func TestInOrder(t *testing.T) {
	for _, x := range []struct {
		ps   []api.Point
		want bool
	}{
		{nil, true}, {at(0), true}, {at(0, 1), true}, {at(-5, 0, 7), true},
		{at(0, 0), false}, {at(1, 0), false}, {at(1, 2, 2), false}, {at(1, 3, 2), false}, {at(2, 1, 3), false},
		{at(-api.MaxTime, api.MaxTime), true}, {at(-api.MaxTime), true}, {at(api.MaxTime), true},
		{at(-api.MaxTime - 1), false}, {at(api.MaxTime + 1), false}, {at(0, api.MaxTime+1), false}, {at(-api.MaxTime-1, 0), false},
		{at(math.MinInt64), false}, {at(math.MaxInt64), false}, {at(math.MinInt64, math.MaxInt64), false}, {at(0, math.MaxInt64, math.MinInt64), false},
	} {
		if got := InOrder(x.ps); got != x.want {
			t.Errorf("InOrder(%v): %v", x.ps, got)
		}
	}
}

// TestRising: as far as numbers go.
func TestRising(t *testing.T) {
	for _, x := range []struct {
		ps   []api.Point
		want bool
	}{
		{nil, true}, {at(0), true}, {at(math.MinInt64), true}, {at(math.MaxInt64), true}, {at(math.MinInt64, math.MaxInt64), true}, {at(-1, 0, 1), true},
		{at(math.MinInt64, math.MinInt64+1, 0, math.MaxInt64-1, math.MaxInt64), true},
		{at(0, 0), false}, {at(1, 0), false}, {at(0, 1, 1), false}, {at(0, 2, 1), false}, {at(1, 0, 2), false}, {at(0, 0, 1), false},
		{at(math.MaxInt64, math.MinInt64), false}, {at(math.MaxInt64, math.MaxInt64), false}, {at(math.MinInt64, math.MinInt64), false}, {at(0, math.MaxInt64, math.MinInt64), false},
	} {
		if got := Rising(x.ps); got != x.want {
			t.Errorf("Rising(%v): %v", x.ps, got)
		}
	}
}

// TestPieces holds FirstFrom and Between against the points, asked one by one.
func TestPieces(t *testing.T) {
	bounds := []int64{math.MinInt64, math.MinInt64 + 1, -api.MaxTime, -3, -2, -1, 0, 1, 2, 3, 4, 5, 6, 7, api.MaxTime, math.MaxInt64 - 1, math.MaxInt64}
	for _, ps := range [][]api.Point{nil, at(0), at(2, 4), at(-2, 0, 1, 5), at(-api.MaxTime, 3, api.MaxTime), at(0, 1, 2, 3, 4, 5, 6)} {
		for _, from := range bounds {
			below := 0
			for _, p := range ps {
				if p.T < from {
					below++
				}
			}
			if got := FirstFrom(ps, from); got != below {
				t.Errorf("FirstFrom(%v, %d): %d, not %d", ps, from, got, below)
			}
			for _, to := range bounds {
				want := slices.DeleteFunc(slices.Clone(ps), func(p api.Point) bool { return p.T < from || p.T > to })
				if got := Between(ps, from, to); !slices.Equal(got, want) {
					t.Errorf("Between(%v, %d, %d): %v, not %v", ps, from, to, got, want)
				}
			}
		}
	}
}
