package metas

import (
	"math"
	"testing"

	"tidewrack/api"
)

// upFrom has n numbers from v on.
func upFrom(v uint64, n int) []uint64 {
	var out []uint64
	for i := range n {
		out = append(out, v+uint64(i))
	}
	return out
}

func TestCounts(t *testing.T) {
	for n, want := range map[int]bool{
		0: true, 1: true, 2: true, 1<<31 - 1: true,
		-1: false, 1 << 31: false, 1<<32 + 1: false, math.MinInt: false, math.MaxInt: false,
	} {
		for _, m := range []api.Meta{{Level: n}, {Series: n}, {Points: n}} {
			if MayBe(m) != want {
				t.Errorf("P9.3: %v: %v", m, !want)
			}
		}
	}
}

func TestSpans(t *testing.T) {
	edges := []int64{math.MinInt64, -api.MaxTime - 1, -1, 0, 1, api.MaxTime + 1, math.MaxInt64}
	for i, from := range edges {
		for k, to := range edges {
			if MayBe(api.Meta{Min: from, Max: to}) != (i <= k) {
				t.Errorf("P9.3: from %d to %d", from, to)
			}
		}
	}
}

func TestSources(t *testing.T) {
	for _, ids := range [][]uint64{nil, {}, {0}, {math.MaxUint64}, {0, math.MaxUint64}, {1, 2, 7}, upFrom(0, 63), upFrom(5, 64), upFrom(9, 65)[:64]} {
		if !MayBe(api.Meta{Sources: ids}) {
			t.Errorf("P9.3: %v may not be", ids)
		}
	}
	for _, ids := range [][]uint64{{0, 0}, {2, 1}, {1, 2, 2}, {1, 3, 2}, {math.MaxUint64, 0}, upFrom(0, 65), upFrom(0, 1000)} {
		if MayBe(api.Meta{Sources: ids}) {
			t.Errorf("P9.3: %v may be", ids)
		}
	}
}

// TestOwnSource: whether a meta is its own source is nothing to it, nor is its ID.
func TestOwnSource(t *testing.T) {
	for _, m := range []api.Meta{{ID: 3, Sources: []uint64{3}}, {ID: math.MaxUint64}, {ID: 5, Sources: []uint64{1, 9}}} {
		if !MayBe(m) {
			t.Errorf("P9.3: %v may not be", m)
		}
	}
}
