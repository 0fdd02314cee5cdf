package block

import (
	"bytes"
	"fmt"
	"math"
	"slices"
	"strings"
	"testing"

	"tidewrack/api"
)

func wantCheck(t *testing.T, what string, ss []api.Series, want api.Errno) {
	t.Helper()
	if e := Check(ss); e != want {
		t.Errorf("P9.1: Check: %s: %d, not %d", what, e, want)
	}
	b, e := Encode(ss)
	if e != want || (len(b) == 0) != (want != api.OK) {
		t.Errorf("P9.1: Encode: %s: %d bytes, %d, not %d", what, len(b), e, want)
	}
	m, e := Meta(ss, 7, 1, []uint64{3})
	if e != want || want != api.OK && fmt.Sprint(m) != fmt.Sprint(api.Meta{}) {
		t.Errorf("P9.3: Meta: %s: %v, %d, not %d", what, m, e, want)
	}
}

// TestBytes: a block's bytes, written out.
func TestBytes(t *testing.T) {
	one := []byte("\x00\x08\x00\x00\x00\x00\x00\x00\x00\x28\x00\x00\x00\x00\x00\x00\x00\x08") // 13 bits: 1; 64: 5; 64: 1
	for _, x := range []struct {
		ss   []api.Series
		want []byte
	}{
		{[]api.Series{of(nil, run(1, 5))}, slices.Concat([]byte("TWB\x01\x00\x01\x00\x12"), one)},
		{[]api.Series{of(set("a", "x"), run(1, 5))}, slices.Concat([]byte("TWB\x01\x02\x01a\x01x\x01\x01\x00\x01\x12"), one)},
		{[]api.Series{of(set("a", "a"), run(1, 5))}, slices.Concat([]byte("TWB\x01\x01\x01a\x01\x01\x00\x00\x12"), one)},
		{[]api.Series{of(set("b", "B", "c", "b"), run(1, 5)), of(set("b", "aa"), run(1, 5))}, slices.Concat([]byte("TWB\x01\x04\x01B\x02aa\x01b\x01c\x02\x02\x02\x00\x03\x02\x01\x02\x01\x12"), one, []byte("\x12"), one)},
	} {
		if b, e := Encode(x.ss); e != api.OK || !bytes.Equal(b, closed(x.want)) {
			t.Errorf("P9.1: %s: %x, %d, not %x", told(x.ss), b, e, closed(x.want))
		}
	}
}

func TestEncodeSamples(t *testing.T) {
	for _, ss := range samples() {
		wantCheck(t, told(ss), ss, api.OK)
		b, e := Encode(ss)
		if want := closed(bodyOf(ss)); e != api.OK || !bytes.Equal(b, want) {
			t.Errorf("P9.1: %s: %x, %d, not %x", told(ss), b, e, want)
		}
	}
}

func TestExamples(t *testing.T) {
	wantCheck(t, "none", nil, api.ErrBlockSeries)
	wantCheck(t, "none", []api.Series{}, api.ErrBlockSeries)
	wantNone(t, "none", nil)
	if m, e := DecodeMeta(nil); e != api.ErrBlockMeta || fmt.Sprint(m) != fmt.Sprint(api.Meta{}) {
		t.Errorf("P9.3: DecodeMeta of none: %v, %d", m, e)
	}
	m, e := Meta([]api.Series{{Labels: set("a", "x"), Points: []api.Point{{T: 5, V: 1}, {T: 9, V: 1}}}}, 7, 1, nil)
	if e != api.OK || fmt.Sprint(m) != fmt.Sprint(api.Meta{ID: 7, Min: 5, Max: 9, Level: 1, Series: 1, Points: 2}) {
		t.Errorf("P9.3: %v, %d", m, e)
	}
}

// wrongSets has lists of labels that may not be.
func wrongSets() [][]api.Label {
	var many []api.Label
	for i := range api.MaxLabels + 1 {
		many = append(many, api.Label{Name: string(rune('a' + i)), Value: "x"})
	}
	return [][]api.Label{
		many, make([]api.Label, 1), set("", "x"), set("1", "x"), set("a b", "x"), set("é", "x"), set("a", ""), set("a", "\xff"),
		set("b", "x", "a", "x"), set("a", "x", "a", "x"), set("a", "x", "a", "y"), set("a", "x", "b", ""),
		set(strings.Repeat("n", api.MaxName+1), "x"), set("a", strings.Repeat("v", api.MaxValue+1)),
	}
}

func wrongPoints() [][]api.Point {
	return [][]api.Point{
		nil, {}, run(0, 1, 1), run(0, 2, 1), run(0, 1, 2, 2), run(0, 1, 3, 2), run(0, 2, 1, 3),
		run(0, api.MaxTime+1), run(0, -api.MaxTime-1), run(0, 0, api.MaxTime+1), run(0, -api.MaxTime-1, 0), run(0, math.MinInt64), run(0, math.MaxInt64),
		steps(api.MaxPoints + 1), steps(3 * api.MaxPoints),
	}
}

func steps(n int) []api.Point {
	out := make([]api.Point, n)
	for i := range out {
		out[i] = api.Point{T: int64(i), V: uint64(i % 7)}
	}
	return out
}

// TestCheckEachPlace: what is wrong is found in each series.
func TestCheckEachPlace(t *testing.T) {
	for _, ss := range samples() {
		for i := range ss {
			turned := slices.Clone(ss)
			for _, ls := range wrongSets() {
				turned[i] = of(ls, ss[i].Points)
				wantCheck(t, fmt.Sprintf("labels %d: %.200q", i, ls), turned, api.ErrBlockSeries)
			}
			for _, ps := range wrongPoints() {
				turned[i] = of(ss[i].Labels, ps)
				wantCheck(t, fmt.Sprintf("points %d: %.200s", i, fmt.Sprint(ps)), turned, api.ErrBlockSeries)
			}
		}
	}
}

// TestCheckOrder: of every list of up to three out of some sets, those alone may be that rise.
func TestCheckOrder(t *testing.T) {
	sets := [][]api.Label{nil, set("a", "x"), set("a", "x", "b", "w"), set("a", "xy"), set("a", "y"), set("aa", "x"), set("b", "a")}
	want := func(rises bool) api.Errno {
		if rises {
			return api.OK
		}
		return api.ErrBlockSeries
	}
	for i, a := range sets {
		for j, b := range sets {
			wantCheck(t, fmt.Sprint(a, b), []api.Series{of(a, run(1, 1)), of(b, run(1, 1))}, want(i < j))
			for k, c := range sets {
				wantCheck(t, fmt.Sprint(a, b, c), []api.Series{of(a, run(1, 1)), of(b, run(2, 2)), of(c, run(3, 3))}, want(i < j && j < k))
			}
		}
	}
}

func nth(i int) []api.Label {
	return set("__name__", "level", "i", fmt.Sprintf("%06d", i))
}

func TestCheckNumbers(t *testing.T) {
	var ss []api.Series
	for i := range 3000 {
		ss = append(ss, of(nth(i), run(uint64(i), int64(i))))
	}
	for n, want := range map[int]api.Errno{0: api.ErrBlockSeries, 1: api.OK, 2: api.OK, 1023: api.OK, 1024: api.OK, 1025: api.ErrBlockSeries, 2048: api.ErrBlockSeries, 3000: api.ErrBlockSeries} {
		wantCheck(t, fmt.Sprintf("%d series", n), ss[:n], want)
	}
	for n, want := range map[int]api.Errno{0: api.ErrBlockSeries, 1: api.OK, 8190: api.OK, 8191: api.OK, 8192: api.ErrBlockSeries, 16384: api.ErrBlockSeries} {
		wantCheck(t, fmt.Sprintf("%d points", n), []api.Series{of(nil, run(1, 1)), of(set("a", "x"), steps(n))}, want)
	}
	for n := range 2*api.MaxLabels + 1 {
		var ls []api.Label
		for i := range n {
			ls = append(ls, api.Label{Name: fmt.Sprintf("n%02d", i), Value: "v"})
		}
		want := api.OK
		if n > api.MaxLabels {
			want = api.ErrBlockSeries
		}
		wantCheck(t, fmt.Sprintf("%d labels", n), []api.Series{of(ls, run(1, 1))}, want)
	}
}

// TestCheckTimes: the edges of T, which points of one moment in several series do not mind.
func TestCheckTimes(t *testing.T) {
	for _, x := range []struct {
		t    int64
		want api.Errno
	}{
		{-api.MaxTime, api.OK}, {api.MaxTime, api.OK}, {0, api.OK}, {-1, api.OK},
		{-api.MaxTime - 1, api.ErrBlockSeries}, {api.MaxTime + 1, api.ErrBlockSeries}, {math.MinInt64, api.ErrBlockSeries}, {math.MaxInt64, api.ErrBlockSeries},
	} {
		wantCheck(t, fmt.Sprint(x.t), []api.Series{of(nil, run(1, x.t)), of(set("a", "x"), run(1, x.t))}, x.want)
	}
}
