package index

import (
	"math"
	"slices"
	"testing"

	"tidewrack/api"
)

// small are all indexes of IDs 1 to 3: each is there or not, live or marked, with each of some lists of sources, and ends at one of some moments.
func small(yield func(api.Index) bool) {
	var each [][]*api.Entry
	for id := range uint64(3) {
		forms := []*api.Entry{nil}
		for _, sources := range [][]uint64{nil, {1}, {2}, {3}, {1, 2}, {2, 3}, {1, 3}, {4}} {
			for _, end := range []int64{4, 5} {
				l, d := live(meta(id+1, 0, end, sources...)), dead(2, meta(id+1, 0, end, sources...))
				forms = append(forms, &l, &d)
			}
		}
		each = append(each, forms)
	}
	for _, a := range each[0] {
		for _, b := range each[1] {
			for _, c := range each[2] {
				ix := api.Index{Version: 9, Floor: 5}
				for _, x := range []*api.Entry{a, b, c} {
					if x != nil {
						ix.Blocks = append(ix.Blocks, *x)
					}
				}
				if !yield(ix) {
					return
				}
			}
		}
	}
}

// TestSmallIndexes: every eleventh of them with each change; what is marked, with all.
func TestSmallIndexes(t *testing.T) {
	some := []change{adding(meta(1, 0, 9, 2)), adding(meta(2, 7, 8)), adding(meta(3, 0, 0)), adding(meta(0, 0, 0)), adding(meta(4, 1, 2, 3)), removing(0), removing(1), removing(2), removing(3), removing(4), raising(4), raising(5), raising(6)}
	n := 0
	for ix := range small {
		n++
		marked := marking(7).wantAsModel(t, ix)
		if got, e := Mark(marked, 7); e != api.OK || told(got) != told(marked) {
			t.Errorf("P14.4: Mark of Mark of %v: %v, %d, not %v", ix, got, e, marked)
		}
		if n%11 > 0 {
			continue
		}
		for _, c := range some {
			got, e := c.do(ix)
			if e != api.OK || got.Version != 9 {
				t.Errorf("P14.2: %s changes the Version: %v, %d", c.what, got, e)
			}
			c.wantAsModel(t, ix)
		}
		wantLists(t, ix)
	}
	if n != 33*33*33 {
		t.Errorf("%d small indexes", n)
	}
}

// TestStaysCovered: by Add, Raise and Mark, whatever is covered.
func TestStaysCovered(t *testing.T) {
	c := newChance(3)
	lost, kept := 0, 0
	for range 800 {
		ix := c.index(8, 12, 3, 20, 10)
		m := meta(uint64(c.Intn(12)), 0, 5, c.some(3, 12)...)
		for _, x := range []change{adding(m), raising(c.Int63n(30) - 15), marking(4)} {
			got, e := x.do(ix)
			if e != api.OK {
				t.Fatalf("P14.2: %s of %v: %d", x.what, ix, e)
			}
			for id := range uint64(14) {
				for _, most := range []int64{lowest, ix.Floor - 1, ix.Floor, got.Floor - 1, got.Floor, highest} {
					wantCovered(t, ix, id, most)
					wantCovered(t, got, id, most)
					if Covered(ix, id, most) && !Covered(got, id, most) {
						t.Errorf("P14.4: %s of %v: %d up to %d is no longer covered", x.what, ix, id, most)
					}
					if Covered(ix, id, most) {
						kept++
					} else {
						lost++
					}
				}
			}
		}
	}
	if lost < 1000 || kept < 1000 {
		t.Errorf("%d covered, %d not", kept, lost)
	}
}

// TestByChance: indexes of all sizes through all changes, one after the other.
func TestByChance(t *testing.T) {
	c := newChance(4)
	for range 300 {
		n := []int{3, 10, 40, 200}[c.Intn(4)]
		ix := c.index(n, 2*n, 4, 50, 20)
		for range 10 {
			changes := []change{
				adding(level(c.Intn(3), meta(uint64(c.Intn(2*n)), -5, c.Int63n(20), c.some(5, 2*n)...))),
				removing(uint64(c.Intn(2 * n))), raising(c.Int63n(60) - 30), marking(c.Int63n(100) - 50),
			}
			ix = changes[c.Intn(4)].wantAsModel(t, ix)
			wantLists(t, ix)
			wantDue(t, ix, c.Int63n(40)-20, c.Int63n(10)-2)
			wantPlan(t, ix, c.Int63n(100000)-50000)
		}
	}
}

func TestAdd(t *testing.T) {
	var ix api.Index
	var want []uint64
	for _, id := range []uint64{5, 0, math.MaxUint64, 7, 6, 1, math.MaxUint64 - 1, 1 << 63} {
		ix = adding(meta(id, int64(id%10), 20, id)).wantAsModel(t, ix)
		want = append(want, id)
		slices.Sort(want)
		if !slices.EqualFunc(ix.Blocks, want, func(b api.Entry, id uint64) bool { return b.Meta.ID == id && !b.Marked && b.At == 0 }) {
			t.Errorf("P14.2: %v, not %v", ix, want)
		}
		again, e := Add(ix, meta(id, -9, -8))
		if e != api.OK || told(again) != told(ix) {
			t.Errorf("P14.2: added twice: %v, %d, not %v", again, e, ix)
		}
	}
	marked := indexOf(dead(3, meta(1, 0, 9)))
	if got, e := Add(marked, meta(1, 0, 9)); e != api.OK || told(got) != told(marked) {
		t.Errorf("P14.2: a marked one, added: %v, %d", got, e)
	}
}

func TestRemove(t *testing.T) {
	ix := full(9)
	for id := range uint64(20) {
		got := removing(id).wantAsModel(t, ix)
		if id%2 == 1 && told(got) != told(ix) {
			t.Errorf("P14.2: Remove of none: %v", got)
		}
	}
	for _, id := range []uint64{1 << 63, math.MaxUint64} {
		removing(id).wantAsModel(t, ix)
	}
	for len(ix.Blocks) > 0 {
		ix = removing(ix.Blocks[len(ix.Blocks)/2].Meta.ID).wantAsModel(t, ix)
	}
	removing(0).wantAsModel(t, ix)
}

func TestRaise(t *testing.T) {
	edges := []int64{lowest, -api.MaxTime - 1, -api.MaxTime, -1, 0, 1, 7, api.MaxTime - 1, api.MaxTime, api.MaxTime + 1, highest}
	for _, from := range edges {
		for _, to := range edges {
			got, e := Raise(floored(from, full(3)), to)
			want, wantE := floored(max(from, to), full(3)), api.OK
			if from < -api.MaxTime || from > api.MaxTime || to > api.MaxTime {
				want, wantE = api.Index{}, api.ErrIndexForm
			}
			if e != wantE || told(got) != told(want) {
				t.Errorf("P14.2: from %d to %d: %v, %d", from, to, got, e)
			}
		}
	}
}

func TestMark(t *testing.T) {
	for _, x := range []struct {
		what string
		ix   api.Index
		want string
	}{
		{"none", indexOf(), "[]"},
		{"a source of a live one", allLive(meta(1, 0, 9), meta(2, 0, 9, 1)), "[1]"},
		{"a source of one ahead of it", allLive(meta(1, 0, 9, 2), meta(2, 0, 9)), "[2]"},
		{"a source of itself", allLive(meta(1, 0, 9, 1)), "[]"},
		{"a source of a marked one", indexOf(live(meta(1, 0, 9)), dead(7, meta(2, 0, 9, 1))), "[2]"},
		{"a source of itself and another", allLive(meta(1, 0, 9, 1), meta(2, 0, 9, 1)), "[1]"},
		{"sources of each other", allLive(meta(1, 0, 9, 2), meta(2, 0, 9, 1)), "[1 2]"},
		{"a source of what is a source", allLive(meta(1, 0, 9), meta(2, 0, 9, 1), meta(3, 0, 9, 2)), "[1 2]"},
		{"a source that is not there", allLive(meta(1, 0, 9, 5, 6), meta(2, 0, 9, 4)), "[]"},
		{"a source of one below the floor", floored(10, allLive(meta(1, 0, 20), meta(2, 0, 9, 1))), "[1 2]"},
		{"at the floor", floored(10, allLive(meta(1, 0, 9), meta(2, 0, 10), meta(3, 0, 11))), "[1]"},
		{"the first and the last of many sources", allLive(meta(0, 0, 9), meta(63, 0, 9), meta(64, 0, 9), meta(99, 0, 9, upFrom(0, 64)...)), "[0 63]"},
		{"overlapping, but no source", allLive(meta(1, 0, 9), meta(2, 0, 9)), "[]"},
	} {
		for _, now := range []int64{lowest, -3, 0, 7, highest} {
			got := marking(now).wantAsModel(t, x.ix)
			var ids []uint64
			for i, b := range got.Blocks {
				if b.Marked {
					ids = append(ids, b.Meta.ID)
				}
				if want := x.ix.Blocks[i]; want.Marked && b.At != want.At || b.Marked && !want.Marked && b.At != now {
					t.Errorf("P14.2: %s: At %d", x.what, b.At)
				}
			}
			if told(ids) != x.want {
				t.Errorf("P14.2: %s: %v, not %s", x.what, ids, x.want)
			}
		}
	}
}

// TestNothingElseIsMarked: where none overlap, only sources and what lies below the floor.
func TestNothingElseIsMarked(t *testing.T) {
	c := newChance(6)
	some := 0
	for range 20000 {
		ix := c.index(6, 10, 2, 60, 6)
		if Overlaps(ix) {
			continue
		}
		some++
		got, _ := Mark(ix, 5)
		for i, b := range got.Blocks {
			if !b.Marked || ix.Blocks[i].Marked || b.Meta.Max < ix.Floor {
				continue
			}
			if !slices.ContainsFunc(ix.Blocks, func(x api.Entry) bool { return !x.Marked && has(x.Meta.Sources, b.Meta.ID) }) {
				t.Errorf("P14.4: %d of %v is marked", b.Meta.ID, ix)
			}
		}
	}
	if some < 1000 {
		t.Errorf("only %d without any that overlap", some)
	}
}
