package chunk

import (
	"bytes"
	"fmt"
	"math"
	"slices"
	"strings"
	"testing"

	"tidewrack/api"
)

// P5.1

func TestEncodeByHand(t *testing.T) {
	first := strings.Repeat("0", 128)
	for _, x := range []struct {
		ps   []api.Point
		want string
	}{
		{nil, "0000000000000"},
		{[]api.Point{}, "0000000000000"},
		{stepped(), "0000000000001" + first},
		{[]api.Point{at(-1, 1)}, "0000000000001" + strings.Repeat("1", 64) + strings.Repeat("0", 63) + "1"},
		{[]api.Point{at(0, 0), at(60, 0), at(120, 1), at(180, 3)},
			"0000000000100" + first + "10" + "0111100" + "0" +
				"0" + "11" + "11111" + "100000" + strings.Repeat("0", 32) + "1" +
				"0" + "10" + strings.Repeat("0", 31) + "10"},
		{valued(0, 1<<63, 0), "0000000000011" + first + "10" + "0000001" + "11" + "00000" + "000000" + "1" + "0" + "10" + "1"},
		{valued(0, math.MaxUint64, math.MaxUint64), "0000000000011" + first + "10" + "0000001" + "11" + "00000" + "111111" + strings.Repeat("1", 64) + "0" + "0"},
		{stepped(64), "0000000000010" + first + "110" + "001000000" + "0"},
		{stepped(256), "0000000000010" + first + "1110" + "000100000000" + "0"},
		{stepped(2048, 1), "0000000000011" + first + "1111" + strings.Repeat("0", 52) + "100000000000" + "0" + "1110" + "100000000001" + "0"},
	} {
		b, e := Encode(x.ps)
		if e != api.OK || !bytes.Equal(b, pack(x.want)) {
			t.Errorf("P5.1: Encode(%v): %x, %d", x.ps, b, e)
		}
	}
}

func TestBends(t *testing.T) {
	edges := []int64{0, 1, 63, 64, 255, 256, 2047, 2048, 2049, 1 << 20, 1<<31 - 1, 1 << 31, 1 << 32, 1<<39 - 2}
	for _, z := range edges {
		wantBothWays(t, "a longer step", stepped(1, 1+z, 1+z))
		wantBothWays(t, "a shorter step", stepped(1+z, 1, 1))
		wantBothWays(t, "a shorter step by one more", stepped(2+z, 1, 1))
	}
	for z := int64(0); z <= 5000; z++ {
		wantBothWays(t, "a longer step", stepped(3, 3+z))
		wantBothWays(t, "a shorter step", stepped(3+z, 3))
	}
	far := []api.Point{at(-api.MaxTime, 0), at(api.MaxTime-1, 0), at(api.MaxTime, 0)}
	wantBothWays(t, "the longest step, and the shortest", far)
	wantBothWays(t, "the shortest step, and the longest", []api.Point{at(-api.MaxTime, 0), at(1-api.MaxTime, 0), at(api.MaxTime, 0)})
}

// everySpan has a change for each place of the highest and of the lowest 1.
func everySpan(c *chance) []uint64 {
	var out []uint64
	for high := range 64 {
		for low := range high + 1 {
			between := uint64(1)<<high - uint64(1)<<low
			out = append(out, uint64(1)<<high|uint64(1)<<low|c.next()&between)
		}
	}
	return out
}

func TestEveryWindow(t *testing.T) {
	c := chance(1)
	xs := everySpan(&c)
	for _, x := range xs {
		wantBothWays(t, "one change", valued(c.next(), 0, x, x, 0))
		wantBothWays(t, "a first change", valued(0, x))
	}
	for range 20000 {
		x, y, z := xs[c.below(len(xs))], xs[c.below(len(xs))], xs[c.below(len(xs))]
		wantBothWays(t, "three changes", valued(0, x, x^y, x^y^z, x^y^z))
	}
}

func TestWindowsAtTheirEdges(t *testing.T) {
	var xs []uint64
	for _, high := range []int{63, 62, 34, 33, 32, 31, 30, 1, 0} {
		for _, low := range []int{63, 62, 34, 33, 32, 31, 30, 1, 0} {
			if low <= high {
				xs = append(xs, uint64(1)<<high|uint64(1)<<low)
			}
		}
	}
	for _, x := range xs {
		for _, y := range xs {
			wantBothWays(t, "two changes", valued(0, x, x^y))
			for _, z := range xs {
				wantBothWays(t, "three changes", valued(7, 7^x, 7^x^y, 7^x^y^z))
			}
		}
	}
}

func TestValuesAreBits(t *testing.T) {
	wantBothWays(t, "values that are no numbers", valued(api.NaN, api.Stale, 0x7ff0000000000001, 0xfff8000000000000, math.MaxUint64, 1<<63, 0, api.Stale, api.Stale))
}

func TestEncodeRefuses(t *testing.T) {
	many := stepped(slices.Repeat([]int64{1}, api.MaxPoints)...)
	swapped := slices.Clone(many)
	slices.Reverse(swapped)
	for _, x := range []struct {
		what string
		ps   []api.Point
		want api.Errno
	}{
		{"one too many", many, api.ErrChunkMany},
		{"one too many, not in order", swapped, api.ErrChunkMany},
		{"twice as many", append(slices.Clone(many), many...), api.ErrChunkMany},
		{"as many as may be, not in order", swapped[:api.MaxPoints], api.ErrChunkOrder},
		{"one time twice", []api.Point{at(1, 0), at(1, 0)}, api.ErrChunkOrder},
		{"one time twice, of two values", []api.Point{at(1, 0), at(1, 1)}, api.ErrChunkOrder},
		{"a time that falls", []api.Point{at(2, 0), at(1, 0)}, api.ErrChunkOrder},
		{"a time that falls last", []api.Point{at(1, 0), at(2, 0), at(3, 0), at(2, 0)}, api.ErrChunkOrder},
		{"a time too late", []api.Point{at(api.MaxTime+1, 0)}, api.ErrChunkOrder},
		{"a time too early", []api.Point{at(-api.MaxTime-1, 0)}, api.ErrChunkOrder},
		{"a time too late last", []api.Point{at(0, 0), at(api.MaxTime+1, 0)}, api.ErrChunkOrder},
		{"a time too early first", []api.Point{at(-api.MaxTime-1, 0), at(0, 0)}, api.ErrChunkOrder},
		{"the latest time of all", []api.Point{at(math.MaxInt64, 0)}, api.ErrChunkOrder},
		{"the earliest time of all", []api.Point{at(math.MinInt64, 0)}, api.ErrChunkOrder},
		{"from the latest to the earliest", []api.Point{at(math.MaxInt64, 0), at(math.MinInt64, 0)}, api.ErrChunkOrder},
		{"from the earliest to the latest", []api.Point{at(math.MinInt64, 0), at(math.MaxInt64, 0)}, api.ErrChunkOrder},
	} {
		if b, e := Encode(x.ps); e != x.want || len(b) != 0 {
			t.Errorf("P5.1: %s: %x, %d", x.what, b, e)
		}
	}
}

func TestTimesAtTheirEdges(t *testing.T) {
	wantBothWays(t, "the latest", []api.Point{at(api.MaxTime, 5)})
	wantBothWays(t, "the earliest", []api.Point{at(-api.MaxTime, 5)})
	wantBothWays(t, "both", []api.Point{at(-api.MaxTime, 5), at(api.MaxTime, 5)})
}

// P5.3

func TestThereAndBackByChance(t *testing.T) {
	c := chance(5)
	for n := range 400 {
		wantBothWays(t, fmt.Sprint(n, " points"), mixed(&c, n))
	}
}

func TestBeginningOfPoints(t *testing.T) {
	c := chance(9)
	ps := mixed(&c, 300)
	all, e := Encode(ps)
	for k := range ps {
		part, f := Encode(ps[:k])
		if e != api.OK || f != api.OK {
			t.Fatalf("P5.1: %d, %d", e, f)
		}
		n := len(part) - 1 // the last byte may end with noughts that are no bits
		if n > 2 && !bytes.Equal(part[2:n], all[2:n]) || n >= 2 && part[1]&7 != all[1]&7 {
			t.Fatalf("P5.3: the first %d points: %x, of all %x", k, part, all)
		}
	}
}

// Sizes

// hardest has as many points as may be, with the longest form of each step and of each change that goes on.
func hardest() []api.Point {
	var out []api.Point
	t := int64(-api.MaxTime)
	for i := range api.MaxPoints {
		v := uint64(math.MaxUint64)
		if i%2 == 0 {
			v = 0
		}
		out = append(out, at(t, v))
		t += 1 + int64(i%2)*4096
	}
	return out
}

func TestAsManyAsMayBe(t *testing.T) {
	if b := wantBothWays(t, "the longest forms", hardest()); len(b) != (len(textOf(hardest()))+7)/8 || len(b) < 8191*16 {
		t.Errorf("P5.1: %d bytes", len(b))
	}
	c := chance(3)
	easy := stepped(slices.Repeat([]int64{15}, api.MaxPoints-1)...)
	if b := wantBothWays(t, "the shortest forms", easy); len(b) != (13+128+9+1+2*8189+7)/8 {
		t.Errorf("P5.1: %d bytes", len(b))
	}
	wantBothWays(t, "all forms", mixed(&c, api.MaxPoints))
}

// R3

func TestEncodeLeavesItsPoints(t *testing.T) {
	c := chance(2)
	room := mixed(&c, 60)
	kept := slices.Clone(room)
	one, _ := Encode(room[:40])
	two, _ := Encode(room[:40])
	if !bytes.Equal(one, pack(textOf(kept[:40]))) {
		t.Errorf("R3: what lies behind the points is told: %x", one)
	}
	one = append(one, 1, 2, 3)
	for i := range one {
		one[i] ^= 0xff
	}
	if !bytes.Equal(two, pack(textOf(kept[:40]))) || !slices.Equal(room, kept) {
		t.Errorf("R3: an answer shares memory")
	}
}
