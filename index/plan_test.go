package index

import (
	"slices"
	"testing"

	"tidewrack/api"
)

// wantSound: a plan is none, or two and more of the live ones, which fit.
func wantSound(t *testing.T, ix api.Index, now int64) {
	t.Helper()
	ids := wantPlan(t, ix, now)
	if len(ids) == 0 {
		return
	}
	var chosen []api.Meta
	for _, m := range Live(ix) {
		if has(ids, m.ID) {
			chosen = append(chosen, m)
		}
	}
	if len(ids) < 2 || len(chosen) != len(ids) || !strictlySorted(ids) || !modelFits(chosen...) {
		t.Errorf("P14.4: Plan(%v, %d): %v", ix, now, ids)
	}
}

func wantIDs(t *testing.T, what string, ix api.Index, now int64, want ...uint64) {
	t.Helper()
	wantSound(t, ix, now)
	if got := Plan(ix, now); !slices.Equal(got, want) {
		t.Errorf("P14.3: %s: Plan(%v, %d): %v, not %v", what, ix, now, got, want)
	}
}

// TestPlanOfSmallSpans: up to four entries of all spans within some moments.
func TestPlanOfSmallSpans(t *testing.T) {
	for _, a := range spans(4) {
		for _, b := range spans(4) {
			wantSound(t, allLive(meta(1, a[0], a[1]), meta(2, b[0], b[1])), 0)
			for _, c := range spans(4) {
				wantSound(t, allLive(meta(1, a[0], a[1]), meta(2, b[0], b[1]), meta(3, c[0], c[1])), 3*7200)
				for _, d := range spans(4) {
					wantSound(t, indexOf(live(meta(1, a[0], a[1])), live(meta(2, b[0], b[1])), dead(5, meta(3, c[0], c[1])), live(meta(4, d[0], d[1]))), 0)
				}
			}
		}
	}
}

// TestWhichOverlapPlan: the first in order of Min, among like ones of ID, with what overlaps just that one.
func TestWhichOverlapPlan(t *testing.T) {
	for _, x := range []struct {
		what string
		ix   api.Index
		want []uint64
	}{
		{"no entries", indexOf(), nil},
		{"one entry", allLive(meta(1, 0, 9)), nil},
		{"two that touch", allLive(meta(1, 0, 9), meta(2, 9, 12)), []uint64{1, 2}},
		{"two side by side", allLive(meta(1, 0, 9), meta(2, 10, 12)), nil},
		{"a later pair of lesser IDs", allLive(meta(1, 50, 60), meta(2, 55, 70), meta(3, 0, 9), meta(4, 5, 12)), []uint64{3, 4}},
		{"one ahead that overlaps none", allLive(meta(1, 0, 9), meta(2, 20, 30), meta(3, 25, 27)), []uint64{2, 3}},
		{"a chain: only what overlaps the first", allLive(meta(1, 0, 10), meta(2, 10, 20), meta(3, 20, 30)), []uint64{1, 2}},
		{"a chain of falling IDs", allLive(meta(1, 20, 30), meta(2, 10, 20), meta(3, 0, 10)), []uint64{2, 3}},
		{"one over all", allLive(meta(1, 0, 3), meta(2, -5, 50), meta(3, 40, 45), meta(4, 50, 60), meta(5, 55, 70)), []uint64{1, 2, 3, 4}},
		{"three of one span", allLive(meta(5, 0, 9), meta(6, 0, 9), meta(7, 0, 9)), []uint64{5, 6, 7}},
		{"a marked one between", indexOf(live(meta(1, 0, 9)), dead(3, meta(2, 0, 50)), live(meta(3, 20, 30)), live(meta(4, 30, 40))), []uint64{3, 4}},
		{"all but one marked", indexOf(dead(0, meta(1, 0, 9)), live(meta(2, 0, 9))), nil},
		{"levels of all kinds", allLive(level(7, meta(1, 0, 9)), level(0, meta(2, 5, 9))), []uint64{1, 2}},
		{"moments at their ends", allLive(meta(1, highest, highest), meta(2, lowest, lowest), meta(3, lowest, highest)), []uint64{2, 3}},
		{"moments at their ends, another order", allLive(meta(1, lowest, highest), meta(2, highest, highest), meta(3, 0, 0)), []uint64{1, 2, 3}},
	} {
		wantIDs(t, x.what, x.ix, 0, x.want...)
		wantIDs(t, x.what, x.ix, lowest, x.want...)
	}
}

// TestWhatFits: the number of sources of two and three that overlap, some of them shared.
func TestWhatFits(t *testing.T) {
	counts := []int{0, 1, 31, 32, 60, 61, 62, 63, 64}
	for _, a := range counts {
		for _, b := range counts {
			for _, shared := range []int{0, 1, 2, 31} {
				if shared > min(a, b) {
					continue
				}
				one, two := upFrom(1000, a), upFrom(1000+uint64(a-shared), b)
				ix := allLive(meta(1, 0, 9, one...), meta(2, 5, 20, two...))
				if a+b-shared+2 <= 64 {
					wantIDs(t, "two that fit", ix, highest, 1, 2)
				} else {
					wantIDs(t, "two that don't", ix, highest)
				}
				wantSound(t, allLive(meta(1, 0, 9, one...), meta(2, 5, 20, two...), meta(3, 20, 30)), highest)
				wantSound(t, allLive(meta(1, 0, 9, one...), meta(2, 5, 20, two...), meta(3, 9, 30)), highest)
				wantSound(t, allLive(meta(1, 0, 9, one...), meta(2, 20, 30, two...), meta(3, 9, 12, 5, 6)), highest)
			}
		}
	}
}

func TestPassedOver(t *testing.T) {
	for _, x := range []struct {
		what string
		ix   api.Index
		want []uint64
	}{
		{"sources that are each other's IDs", allLive(meta(1, 0, 9, upFrom(2, 63)...), meta(2, 0, 9)), []uint64{1, 2}},
		{"its own ID among its sources", allLive(meta(1, 0, 9, upFrom(1, 63)...), meta(70, 0, 9)), []uint64{1, 70}},
		{"its own ID among 64 sources", allLive(meta(1, 0, 9, upFrom(0, 64)...), meta(2, 0, 9)), []uint64{1, 2}},
		{"the first fits with none", allLive(meta(1, 0, 9, upFrom(1000, 63)...), meta(2, 5, 20), meta(3, 20, 30)), []uint64{2, 3}},
		{"the first is too much alone", allLive(meta(1, 0, 9, upFrom(1000, 64)...), meta(2, 5, 20), meta(3, 20, 30)), []uint64{2, 3}},
		{"the first is too much alone, and overlaps two that don't overlap", allLive(meta(1, 0, 90, upFrom(1000, 64)...), meta(2, 5, 20), meta(3, 30, 40)), nil},
		{"the second does not fit, the third does", allLive(meta(1, 0, 90, 1, 2), meta(2, 5, 20, upFrom(1000, 63)...), meta(3, 20, 30)), []uint64{1, 3}},
		{"the third does not fit any more, the fourth does", allLive(meta(1, 0, 90, upFrom(1000, 30)...), meta(2, 5, 20, upFrom(2000, 30)...), meta(3, 20, 30, 5, 6), meta(4, 30, 40)), []uint64{1, 2, 4}},
		{"one that was passed over is taken by a later one", allLive(meta(1, 0, 90, upFrom(1000, 62)...), meta(2, 95, 99), meta(3, 5, 97, upFrom(2000, 10)...)), []uint64{2, 3}},
		{"what would fit does not overlap", allLive(meta(1, 0, 9, upFrom(1000, 62)...), meta(2, 5, 20, upFrom(2000, 62)...), meta(3, 30, 40)), nil},
		{"what fits only without one ahead", allLive(meta(1, 0, 90, upFrom(1000, 20)...), meta(2, 1, 2, upFrom(2000, 20)...), meta(3, 3, 4, upFrom(3000, 30)...), meta(4, 5, 6, upFrom(4000, 19)...)), []uint64{1, 2, 4}},
	} {
		wantIDs(t, x.what, x.ix, 0, x.want...)
	}
}

const width = 3 * 7200

// TestWindowEdges: two within one window, each at its edges or just outside, at moments about its end.
func TestWindowEdges(t *testing.T) {
	for _, k := range []int64{-50915, -3, -2, -1, 0, 1, 2, 700, 50914} {
		from, behind := k*width, (k+1)*width
		for _, x := range [][4]int64{
			{0, 0, 1, 1}, {0, 9, 10, width - 1}, {-1, 9, 10, 20}, {0, 9, 10, width}, {0, 0, width - 1, width - 1}, {-1, -1, 0, 0}, {width - 1, width - 1, width, width},
			{0, 9, width, width + 9}, {-9, 0, 1, 9}, {0, width - 2, width - 1, width - 1}, {-width, -width + 1, -2, -1}, {-width, -1, 0, width - 1},
		} {
			ix := allLive(meta(1, from+x[0], from+x[1]), meta(2, from+x[2], from+x[3]))
			swapped := allLive(meta(1, from+x[2], from+x[3]), meta(2, from+x[0], from+x[1]))
			within := x[0] >= 0 && x[3] < width
			for _, now := range []int64{lowest, behind - width, behind - 1, behind, behind + 1, behind + 5*width, highest} {
				wantSound(t, ix, now)
				wantSound(t, swapped, now)
				if within && len(Plan(ix, now)) != map[bool]int{true: 2}[now >= behind] {
					t.Errorf("P14.3: %v at %d: %v", ix, now, Plan(ix, now))
				}
			}
		}
	}
}

func TestWhichWindow(t *testing.T) {
	many := func(first int64, id uint64, n int) []api.Meta {
		var out []api.Meta
		for i := range n {
			out = append(out, meta(id+uint64(i), first+int64(2*i), first+int64(2*i)+1))
		}
		return out
	}
	for _, x := range []struct {
		what string
		ix   api.Index
		now  int64
		want []uint64
	}{
		{"levels", allLive(level(0, meta(1, 0, 1)), level(1, meta(2, 2, 3)), level(2, meta(3, 4, 5)), level(3, meta(4, 6, 7))), width, []uint64{1, 2}},
		{"one of a low level", allLive(level(0, meta(1, 0, 1)), level(2, meta(3, 4, 5)), level(3, meta(4, 6, 7))), width, nil},
		{"the first window of two", allLive(append(many(width, 1, 3), many(0, 9, 2)...)...), 2 * width, []uint64{9, 10}},
		{"the second, as the first has one only", allLive(append(many(width, 1, 3), meta(9, 0, 1))...), 2 * width, []uint64{1, 2, 3}},
		{"the second, as the first has one of a low level only", allLive(append(many(width, 1, 3), meta(8, 7, 8), level(2, meta(9, 0, 1)))...), 2 * width, []uint64{1, 2, 3}},
		{"the second, as one goes beyond the first", allLive(append(many(width+10, 1, 3), meta(8, 7, 8), meta(9, 9, width))...), 2 * width, []uint64{1, 2, 3}},
		{"windows far apart", allLive(append(many(-9*width, 1, 1), append(many(-4*width, 2, 1), many(8*width, 3, 2)...)...)...), 9 * width, []uint64{3, 4}},
		{"the second is not over", allLive(append(many(width, 1, 3), meta(9, 0, 1))...), 2*width - 1, nil},
		{"one at a window's end, one in the next", allLive(meta(1, width-1, width-1), meta(2, width, width)), highest, nil},
		{"below and above 0", allLive(meta(1, -1, -1), meta(2, 0, 0)), highest, nil},
		{"marked ones", indexOf(live(meta(1, 0, 1)), dead(3, meta(2, 4, 5)), live(meta(3, width, width+1)), live(meta(4, width+5, width+5))), highest, []uint64{3, 4}},
		{"the first one's do not fit, the next window's are not asked", allLive(meta(1, 0, 1, upFrom(1000, 40)...), meta(2, 5, 6, upFrom(2000, 40)...), meta(3, width, width), meta(4, width+1, width+1)), highest, nil},
		{"the first of three does not fit with the second", allLive(meta(1, 0, 1, upFrom(1000, 40)...), meta(2, 5, 6, upFrom(2000, 40)...), meta(3, 7, 8)), highest, []uint64{1, 3}},
		{"the first is too much alone", allLive(meta(1, 0, 1, upFrom(1000, 64)...), meta(2, 5, 6), meta(3, 7, 8)), highest, []uint64{2, 3}},
		{"one that is too much alone and another", allLive(meta(1, 0, 1, upFrom(1000, 64)...), meta(2, 5, 6), meta(3, width, width), meta(4, width+1, width+1)), highest, nil},
		{"in order of Min, not of ID", allLive(meta(1, 8, 9, upFrom(1000, 30)...), meta(2, 4, 5, upFrom(2000, 30)...), meta(3, 0, 1, upFrom(3000, 30)...)), highest, []uint64{2, 3}},
		{"as many as fit", allLive(many(0, 1, 70)...), highest, upFrom(1, 64)},
		{"what overlaps goes ahead of windows", allLive(append(many(0, 1, 3), meta(8, 5*width, 5*width+9), meta(9, 5*width, 5*width))...), highest, []uint64{8, 9}},
		{"what overlaps and does not fit does not", allLive(append(many(0, 1, 3), meta(8, 5*width, 5*width+9, upFrom(1000, 60)...), meta(9, 5*width, 5*width, upFrom(2000, 60)...))...), highest, []uint64{1, 2, 3}},
		{"one that goes beyond, ahead of two within", allLive(meta(1, 5, width+5, upFrom(1000, 64)...), meta(2, 10, 12), meta(3, 20, 22)), width, []uint64{2, 3}},
		{"moments at their ends", allLive(meta(1, lowest, lowest), meta(2, lowest+1, lowest+1), meta(3, highest-1, highest-1), meta(4, highest, highest)), highest, []uint64{1, 2}},
		{"the last window is never over", allLive(meta(3, highest-1, highest-1), meta(4, highest, highest)), highest, nil},
		{"from end to end", allLive(meta(3, lowest, highest)), highest, nil},
	} {
		wantIDs(t, x.what, x.ix, x.now, x.want...)
	}
}

// TestPlansByChance: many that overlap and few, some with many sources, some in windows.
func TestPlansByChance(t *testing.T) {
	c := newChance(8)
	sizes := map[int]int{}
	for i := range 6000 {
		n := []int{2, 5, 10, 30}[c.Intn(4)]
		reach := []int64{20, 300, 3 * width, 30 * width}[c.Intn(4)]
		sources := []int{0, 2, 20, 64}[c.Intn(4)]
		ix := c.index(n, []int{n + 1, 3 * n, 200}[c.Intn(3)], sources, reach, []int64{0, 2, reach / 10}[i%3])
		now := c.Int63n(4*reach) - 2*reach
		wantSound(t, ix, now)
		sizes[min(len(Plan(ix, now)), 3)]++
	}
	for n := range 4 {
		if n != 1 && sizes[n] < 150 {
			t.Errorf("%d plans of %d", sizes[n], n)
		}
	}
}
