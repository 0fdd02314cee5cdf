package index

import (
	"math"
	"slices"
	"testing"

	"tidewrack/api"
)

func TestExamples(t *testing.T) {
	three := []api.Meta{meta(1, 0, 9), meta(2, 5, 20), meta(3, 30, 40)}
	ix := allLive(three...)
	if ids := Plan(ix, 0); !slices.Equal(ids, []uint64{1, 2}) || !Overlaps(ix) {
		t.Errorf("P14.3: %v", ids)
	}
	four := allLive(append(three, meta(4, 0, 20, 1, 2))...)
	want := indexOf(dead(7, three[0]), dead(7, three[1]), live(three[2]), live(meta(4, 0, 20, 1, 2)))
	marked, e := Mark(four, 7)
	if e != api.OK || told(marked) != told(want) || !Covered(marked, 1, 0) || !slices.Equal(Due(marked, 7, 0), []uint64{1, 2}) {
		t.Errorf("P14.2: %v, %d", marked, e)
	}
	two := allLive(meta(1, 0, 9), meta(2, 7200, 7300))
	if ids := Plan(two, 21599); len(ids) > 0 {
		t.Errorf("P14.3: %v", ids)
	}
	if ids := Plan(two, 21600); !slices.Equal(ids, []uint64{1, 2}) {
		t.Errorf("P14.3: %v", ids)
	}
}

func TestFloors(t *testing.T) {
	for floor, want := range map[int64]bool{
		-api.MaxTime: true, -api.MaxTime + 1: true, -1: true, 0: true, 5: true, api.MaxTime: true,
		-api.MaxTime - 1: false, api.MaxTime + 1: false, lowest: false, highest: false,
	} {
		for _, ix := range []api.Index{{}, allLive(meta(1, 0, 9), meta(5, 2, 3, 1)), indexOf(dead(-3, meta(2, 0, 9)))} {
			if wantAll(t, floored(floor, ix)) != want {
				t.Errorf("P14.1: a floor of %d: %v", floor, !want)
			}
		}
	}
}

// wrongMetas may not be, each by one fault.
func wrongMetas() []api.Meta {
	var out []api.Meta
	for _, n := range []int{-1, 1 << 31, 1<<32 + 1, math.MinInt, math.MaxInt} {
		out = append(out, api.Meta{ID: 3, Level: n}, api.Meta{ID: 3, Series: n}, api.Meta{ID: 3, Points: n})
	}
	for _, ids := range [][]uint64{{0, 0}, {3, 2}, {1, 2, 2}, {1, 3, 2}, {math.MaxUint64, 0}, upFrom(0, 65), upFrom(5, 300)} {
		out = append(out, meta(3, 0, 9, ids...))
	}
	for _, x := range [][2]int64{{1, 0}, {0, -1}, {highest, lowest}, {5, -5}} {
		out = append(out, meta(3, x[0], x[1]))
	}
	return out
}

// rightMetas may be, at their edges.
func rightMetas() []api.Meta {
	const most = 1<<31 - 1
	return []api.Meta{
		{}, {ID: 3}, {ID: math.MaxUint64}, {ID: 3, Level: most, Series: most, Points: most}, {ID: 3, Min: lowest, Max: highest}, {ID: 3, Min: lowest, Max: lowest}, {ID: 3, Min: highest, Max: highest},
		meta(3, -1, -1), meta(3, 0, 9, 3), meta(3, 0, 9, 0, math.MaxUint64), meta(3, 0, 9, upFrom(0, 64)...), meta(3, 0, 9, upFrom(math.MaxUint64-63, 64)...),
	}
}

// TestMetas: one that may not be is not to be in an index, alone or among others, live or marked, and is not added.
func TestMetas(t *testing.T) {
	for _, m := range wrongMetas() {
		for _, b := range []api.Entry{live(m), dead(0, m), dead(5, m)} {
			for _, ix := range []api.Index{indexOf(b), indexOf(live(meta(1, 0, 9)), b), indexOf(b, live(meta(9, 0, 9))), indexOf(live(meta(1, 0, 9)), b, live(meta(9, 0, 9)))} {
				if wantAll(t, ix) {
					t.Errorf("P14.1: %v may be", ix)
				}
			}
		}
		for _, ix := range []api.Index{{}, allLive(meta(1, 0, 9)), allLive(meta(3, 0, 9))} {
			adding(m).wantAsModel(t, ix)
		}
	}
	for _, m := range rightMetas() {
		for _, ix := range []api.Index{indexOf(live(m)), indexOf(dead(0, m)), indexOf(dead(lowest, m)), indexOf(dead(highest, m))} {
			if !wantAll(t, ix) {
				t.Errorf("P14.1: %v may not be", ix)
			}
		}
		for _, ix := range []api.Index{{}, allLive(meta(1, 0, 9)), allLive(meta(3, 0, 9)), allLive(meta(1, 0, 9), meta(9, 0, 9))} {
			adding(m).wantAsModel(t, ix)
		}
	}
}

func TestMoments(t *testing.T) {
	for _, at := range []int64{lowest, -1, 1, 5, highest} {
		wrong := live(meta(3, 0, 9))
		wrong.At = at
		for _, ix := range []api.Index{indexOf(wrong), indexOf(live(meta(1, 0, 9)), wrong), indexOf(wrong, live(meta(5, 0, 9)))} {
			if wantAll(t, ix) {
				t.Errorf("P14.1: %v may be", ix)
			}
		}
		if !wantAll(t, indexOf(dead(at, meta(3, 0, 9)))) {
			t.Errorf("P14.1: marked at %d may not be", at)
		}
	}
}

// TestIDs: all lists of three out of some.
func TestIDs(t *testing.T) {
	numbers := []uint64{0, 1, 2, 1 << 63, math.MaxUint64}
	some := 0
	for _, a := range numbers {
		for _, b := range numbers {
			for _, c := range numbers {
				if wantAll(t, indexOf(live(meta(a, 0, 9)), dead(1, meta(b, 0, 9)), live(meta(c, 0, 9)))) {
					some++
				}
			}
		}
	}
	if some != 10 {
		t.Errorf("P14.1: %d lists of IDs may be", some)
	}
}

// full has n entries, of every other ID from 0 on.
func full(n int) api.Index {
	ix := indexOf()
	for i := range n {
		m := meta(uint64(2*i), int64(i), int64(i), 1000+uint64(i))
		if i%3 == 0 {
			ix.Blocks = append(ix.Blocks, dead(int64(i), m))
		} else {
			ix.Blocks = append(ix.Blocks, live(m))
		}
	}
	return ix
}

// TestMany: as many entries as there may be, one less, and more.
func TestMany(t *testing.T) {
	for _, n := range []int{0, 1, 254, 255, 256, 257, 258, 1000} {
		if wantAll(t, full(n)) != (n <= 256) {
			t.Errorf("P14.1: %d entries", n)
		}
	}
}

// TestOrderOfErrors: what may not be goes ahead of too many, and too many ahead of an ID that is there.
func TestOrderOfErrors(t *testing.T) {
	for _, x := range []struct {
		what string
		ix   api.Index
		m    api.Meta
		want api.Errno
	}{
		{"a wrong meta into a full index", full(256), meta(1, 4, 3), api.ErrIndexForm},
		{"a wrong meta of an ID that is there", full(5), meta(2, 4, 3), api.ErrIndexForm},
		{"a meta into an index that has too many", full(257), meta(1, 0, 0), api.ErrIndexForm},
		{"a meta into a full index", full(256), meta(1, 0, 0), api.ErrIndexMany},
		{"a meta that is there into a full index", full(256), meta(2, 0, 0), api.ErrIndexMany},
		{"the last one", full(255), meta(1, 0, 0), api.OK},
		{"one that is there into an index with room for one", full(255), meta(2, 0, 0), api.OK},
	} {
		got, e := Add(x.ix, x.m)
		if e != x.want || e != api.OK && told(got) != told(api.Index{}) {
			t.Errorf("P14.2: %s: %v, %d, not %d", x.what, got, e, x.want)
		}
		adding(x.m).wantAsModel(t, x.ix)
	}
}
