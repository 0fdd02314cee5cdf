package limits

import (
	"reflect"
	"slices"
	"strings"
	"testing"
	"time"

	"tidewrack/api"
)

// roomy has wrong samples behind its length, and wrong labels behind those of each sample.
func roomy(n int) []api.Sample {
	var out []api.Sample
	for range n {
		ls := append(manyPairs(2), api.Label{Name: "1"}, api.Label{})[:2]
		out = append(out, api.Sample{Labels: ls, T: 7, V: 8})
	}
	return append(out, sample(0), sample(1<<62, "1", ""))[:n]
}

// whole has what lies behind the lengths, too.
func whole(ss []api.Sample) []api.Sample {
	out := slices.Clone(ss[:cap(ss)])
	for i, s := range out {
		out[i].Labels = slices.Clone(s.Labels[:cap(s.Labels)])
	}
	return out
}

func TestWhatComesIn(t *testing.T) {
	for n := range 5 {
		ss := roomy(n)
		was := whole(ss)
		_, e := Check("t", ss, api.Limits{Labels: 2, Push: 3})
		if want := n < 1 || n > 3; (e == api.ErrLimitPush) != want || (e == api.OK) == want {
			t.Errorf("R3: %d samples with others behind them: %d", n, e)
		}
		if !reflect.DeepEqual(whole(ss), was) {
			t.Errorf("R3: %d samples: what was handed in is changed", n)
		}
	}
}

// TestEmptyLabels: a sample whose list of labels is empty is as one that has none.
func TestEmptyLabels(t *testing.T) {
	for _, ls := range [][]api.Label{nil, {}, manyPairs(3)[:0]} {
		if n, e := Check("t", []api.Sample{sample(0, "a", "x"), {Labels: ls}}, api.Limits{Labels: 3, Push: 2}); n != 1 || e != api.ErrLimitLabels {
			t.Errorf("R2: %d, %d", n, e)
		}
	}
}

// TestSizes: the greatest push in a moment, and what is too much without a look at it.
func TestSizes(t *testing.T) {
	var ls []api.Label
	for i := range 16 {
		ls = append(ls, api.Label{Name: strings.Repeat("n", 63) + string(rune('a'+i)), Value: strings.Repeat("é", 128)})
	}
	full := slices.Repeat([]api.Sample{{Labels: ls, T: api.MaxTime}}, api.MaxPush)
	much := slices.Repeat(full, 1<<12)
	l := api.Limits{Labels: api.MaxLabels, Push: 1 << 30}
	start := time.Now()
	for range 10 {
		if n, e := Check("t", full, l); n != 0 || e != api.OK {
			t.Errorf("P15.2: the greatest push: %d, %d", n, e)
		}
	}
	for range 1000 {
		if n, e := Check("t", much, l); n != 0 || e != api.ErrLimitPush {
			t.Errorf("P15.2: %d samples: %d, %d", len(much), n, e)
		}
	}
	if took := time.Since(start); took > 5*time.Second {
		t.Errorf("R1: took %v", took)
	}
}
