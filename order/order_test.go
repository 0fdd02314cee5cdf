package order

import (
	"math"
	"slices"
	"testing"
)

func TestRising(t *testing.T) {
	for _, x := range []struct {
		list []int
		want bool
	}{
		{nil, true}, {[]int{}, true}, {[]int{5}, true}, {[]int{-5}, true}, {[]int{0, 1}, true}, {[]int{-1, 0, 7}, true}, {[]int{math.MinInt, 0, math.MaxInt}, true},
		{[]int{0, 0}, false}, {[]int{1, 0}, false}, {[]int{0, 0, 1}, false}, {[]int{0, 1, 1}, false}, {[]int{0, 2, 1}, false}, {[]int{1, 0, 2}, false}, {[]int{math.MaxInt, math.MinInt}, false},
	} {
		if got := Rising(x.list); got != x.want {
			t.Errorf("%v: %v", x.list, got)
		}
	}
}

// TestKinds: numbers without a sign go as far as they go, texts byte by byte.
func TestKinds(t *testing.T) {
	if !Rising([]uint64{0, 1 << 63, math.MaxUint64}) || Rising([]uint64{math.MaxUint64, 0}) || Rising([]uint32{1 << 31, 1}) {
		t.Error("numbers without a sign")
	}
	if !Rising([]string{"", "Z", "a", "aa", "b"}) || Rising([]string{"aa", "a"}) || Rising([]string{"a", "a"}) {
		t.Error("texts")
	}
}

// TestSpareRoom: what stands behind the length is not read.
func TestSpareRoom(t *testing.T) {
	list := []int{1, 2, 0}
	if !Rising(list[:2]) {
		t.Error("R3: read behind the length")
	}
}

// lists are all rising ones of numbers below n.
func lists(n int) [][]int {
	var out [][]int
	for bits := range 1 << n {
		var list []int
		for i := range n {
			if bits>>i&1 == 1 {
				list = append(list, i)
			}
		}
		out = append(out, list)
	}
	return out
}

// TestUnion: all rising lists of some numbers with all others.
func TestUnion(t *testing.T) {
	for _, a := range lists(5) {
		for _, b := range lists(5) {
			want := slices.Sorted(slices.Values(slices.Concat(a, b)))
			want = slices.Compact(want)
			if got := Union(a, b); !slices.Equal(got, want) {
				t.Errorf("%v and %v: %v", a, b, got)
			}
		}
	}
	if got := Union([]uint64{1, math.MaxUint64}, []uint64{0, 1 << 63, math.MaxUint64}); !slices.Equal(got, []uint64{0, 1, 1 << 63, math.MaxUint64}) {
		t.Errorf("numbers without a sign: %v", got)
	}
	if got := Union([]string{"a", "b"}, []string{"", "aa"}); !slices.Equal(got, []string{"", "a", "aa", "b"}) {
		t.Errorf("texts: %q", got)
	}
}

// TestUnionIsNew: neither list is changed, nor is what stands behind it, and the answer is of its own.
func TestUnionIsNew(t *testing.T) {
	a, b := []int{1, 5, 9, 77, 78}, []int{2, 5, 77, 78}
	got := Union(a[:3], b[:2])
	if !slices.Equal(got, []int{1, 2, 5, 9}) || !slices.Equal(a, []int{1, 5, 9, 77, 78}) || !slices.Equal(b, []int{2, 5, 77, 78}) {
		t.Errorf("R3: %v of %v and %v", got, a, b)
	}
	for _, x := range [][2][]int{{a[:3], nil}, {nil, a[:3]}, {a[:3], b[:2]}} {
		got := Union(x[0], x[1])
		clear(got[:cap(got)])
		if !slices.Equal(a, []int{1, 5, 9, 77, 78}) || !slices.Equal(b, []int{2, 5, 77, 78}) {
			t.Errorf("R3: shares memory: %v, %v", a, b)
		}
	}
}
