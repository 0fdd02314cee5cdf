package index

import (
	"math"
	"slices"
	"testing"

	"tidewrack/api"
)

func TestLive(t *testing.T) {
	ms := []api.Meta{meta(1, 5, 9, 4, 5), meta(2, 0, 1), meta(7, -3, 9, 2), meta(9, lowest, highest)}
	for bits := range 16 {
		var ix api.Index
		var want []api.Meta
		for i, m := range ms {
			if bits>>i&1 == 1 {
				ix.Blocks = append(ix.Blocks, dead(int64(i), m))
			} else {
				ix.Blocks = append(ix.Blocks, live(m))
				want = append(want, m)
			}
		}
		if got := Live(ix); told(got) != told(want) {
			t.Errorf("P14.3: %v, not %v", got, want)
		}
	}
}

func TestCovered(t *testing.T) {
	ix := floored(10, indexOf(live(meta(1, 0, 99, 3, 4, 60)), dead(6, meta(5, 0, 99, 0, 7, math.MaxUint64))))
	for id, want := range map[uint64]bool{0: true, 1: true, 3: true, 4: true, 5: true, 7: true, 60: true, math.MaxUint64: true, 2: false, 6: false, 59: false, 61: false, 1 << 63: false, math.MaxUint64 - 1: false} {
		for _, most := range []int64{10, 11, highest} {
			if Covered(ix, id, most) != want {
				t.Errorf("P14.3: %d up to %d: %v", id, most, !want)
			}
		}
		for _, most := range []int64{9, 8, -5, lowest} {
			if !Covered(ix, id, most) {
				t.Errorf("P14.3: %d up to %d, below the floor", id, most)
			}
		}
	}
	for floor := int64(-2); floor <= 2; floor++ {
		for most := int64(-3); most <= 3; most++ {
			if Covered(api.Index{Floor: floor}, 7, most) != (most < floor) {
				t.Errorf("P14.3: up to %d, the floor %d", most, floor)
			}
		}
	}
}

// TestDue: all moments and delays at the edges of what they may be, and of a delay's end.
func TestDue(t *testing.T) {
	edges := []int64{lowest, lowest + 1, -6, -1, 0, 1, 5, 6, 7, highest - 1, highest}
	for _, at := range edges {
		ix := indexOf(live(meta(1, 0, 9)), dead(at, meta(2, 0, 9)), live(meta(3, 0, 9)), dead(5, meta(4, 0, 9)), dead(0, meta(5, 0, 9)))
		for _, now := range edges {
			for _, delay := range edges {
				wantDue(t, ix, now, delay)
			}
		}
	}
	ix := indexOf(dead(5, meta(2, 0, 9)), dead(6, meta(4, 0, 9)), live(meta(5, 0, 9)), dead(-9, meta(7, 0, 9)))
	for _, x := range []struct {
		now, delay int64
		want       []uint64
	}{
		{4, 0, []uint64{7}}, {5, 0, []uint64{2, 7}}, {6, 0, []uint64{2, 4, 7}}, {6, 1, []uint64{2, 7}}, {6, 15, []uint64{7}}, {6, 16, nil}, {6, -1, []uint64{2, 4, 7}}, {5, lowest, []uint64{2, 7}}, {-10, lowest, nil},
		{highest, highest, []uint64{7}}, {highest, highest - 5, []uint64{2, 7}}, {highest, highest - 6, []uint64{2, 4, 7}},
	} {
		if got := Due(ix, x.now, x.delay); !slices.Equal(got, x.want) {
			t.Errorf("P14.3: at %d, delay %d: %v, not %v", x.now, x.delay, got, x.want)
		}
	}
}

// spans are all within moments 0 to n - 1.
func spans(n int64) [][2]int64 {
	var out [][2]int64
	for from := range n {
		for to := from; to < n; to++ {
			out = append(out, [2]int64{from, to})
		}
	}
	return out
}

// TestOverlaps: two and three entries, of all spans within some moments, live and marked.
func TestOverlaps(t *testing.T) {
	for _, a := range spans(5) {
		for _, b := range spans(5) {
			ix := allLive(meta(1, a[0], a[1]), meta(2, b[0], b[1]))
			want := false
			for at := range int64(5) {
				want = want || at >= a[0] && at <= a[1] && at >= b[0] && at <= b[1]
			}
			if Overlaps(ix) != want {
				t.Errorf("P14.3: %v and %v: %v", a, b, !want)
			}
			for _, c := range spans(5) {
				wantLists(t, allLive(meta(1, a[0], a[1]), meta(2, b[0], b[1]), meta(3, c[0], c[1])))
				wantLists(t, indexOf(live(meta(1, a[0], a[1])), dead(0, meta(2, b[0], b[1])), live(meta(3, c[0], c[1]))))
			}
		}
	}
	for _, ix := range []api.Index{allLive(meta(1, lowest, highest), meta(2, highest, highest)), allLive(meta(1, lowest, lowest), meta(2, lowest, highest))} {
		if !Overlaps(ix) {
			t.Errorf("P14.3: %v: none", ix)
		}
	}
	if Overlaps(allLive(meta(1, lowest, -1), meta(2, 0, highest))) || Overlaps(allLive(meta(1, 0, highest), meta(2, lowest, -1))) {
		t.Error("P14.3: side by side")
	}
}
