package order

import (
	"math"
	"testing"
)

func TestRising(t *testing.T) {
	for _, x := range []struct {
		list []int
		want bool
	}{
		{nil, true}, {[]int{}, true}, {[]int{5}, true}, {[]int{-5}, true}, {[]int{0, 1}, true}, {[]int{-1, 0, 7}, true}, {[]int{math.MinInt, 0, math.MaxInt}, true},
		{[]int{0, 0}, false}, {[]int{1, 0}, false}, {[]int{0, 0, 1}, false}, {[]int{0, 1, 1}, false}, {[]int{0, 2, 1}, false}, {[]int{1, 0, 2}, false}, {[]int{math.MaxInt, math.MinInt}, false},
	} {
		if got := Rising(x.list); got != x.want {
			t.Errorf("%v: %v", x.list, got)
		}
	}
}

// TestKinds: numbers without a sign go as far as they go, texts byte by byte.
func TestKinds(t *testing.T) {
	if !Rising([]uint64{0, 1 << 63, math.MaxUint64}) || Rising([]uint64{math.MaxUint64, 0}) || Rising([]uint32{1 << 31, 1}) {
		t.Error("numbers without a sign")
	}
	if !Rising([]string{"", "Z", "a", "aa", "b"}) || Rising([]string{"aa", "a"}) || Rising([]string{"a", "a"}) {
		t.Error("texts")
	}
}

// TestSpareRoom: what stands behind the length is not read.
func TestSpareRoom(t *testing.T) {
	list := []int{1, 2, 0}
	if !Rising(list[:2]) {
		t.Error("R3: read behind the length")
	}
}
