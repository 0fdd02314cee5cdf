package ha

import (
	"bytes"
	"reflect"
	"slices"
	"strings"
	"testing"
	"time"

	"tidewrack/api"
)

// whole has what lies behind the lengths, too.
func whole(ss []api.Sample) []api.Sample {
	out := slices.Clone(ss[:cap(ss)])
	for i, s := range out {
		out[i].Labels = slices.Clone(s.Labels[:cap(s.Labels)])
	}
	return out
}

// roomy has samples of another sender behind its length, and other labels behind those of each sample.
func roomy(n int, texts ...string) []api.Sample {
	var out []api.Sample
	for i := range n {
		s := sample(int64(i), texts...)
		s.Labels = slices.Clip(s.Labels)
		s.Labels = append(s.Labels, api.Label{Name: "cluster", Value: "z"}, api.Label{Name: "replica", Value: "z"})[:len(s.Labels)]
		out = append(out, s)
	}
	return append(slices.Clip(out), sample(7, "cluster", "y", "replica", "y"), sample(8))[:n]
}

// pushes are of each kind: of none, of several senders, and wrong.
func pushes(n int) [][]api.Sample {
	return [][]api.Sample{roomy(n), roomy(n, "a", "b"), roomy(n, "cluster", "c"), roomy(n, "a", "b", "cluster", "c", "replica", "r"), roomy(n, "cluster", "c", "replica", "r"), roomy(n, "replica", "r", "x", "y")}
}

func TestWhatComesIn(t *testing.T) {
	for n := range 5 {
		for _, ss := range pushes(n) {
			was := whole(ss)
			splitIs(t, ss)
			if !reflect.DeepEqual(whole(ss), was) {
				t.Errorf("R3: Split: what was handed in is changed: %v", ss)
			}
		}
	}
}

// spoil writes over all memory of samples, and behind their lengths.
func spoil(ss []api.Sample) {
	for _, s := range ss[:cap(ss)] {
		for k := range s.Labels[:cap(s.Labels)] {
			s.Labels[:cap(s.Labels)][k] = api.Label{Name: "spoilt", Value: "spoilt"}
		}
	}
	for i := range ss[:cap(ss)] {
		ss[:cap(ss)][i] = sample(99, "spoilt", "spoilt")
	}
}

func TestWhatGoesOut(t *testing.T) {
	for n := range 5 {
		for k := range pushes(n) {
			ss := pushes(n)[k]
			was := whole(ss)
			c, r, want, e := splitOf(pushes(n)[k])
			_, _, first, _ := Split(ss)
			_, _, second, _ := Split(ss)
			spoil(first)
			if !reflect.DeepEqual(whole(ss), was) || told(second) != told(want) {
				t.Errorf("R3: Split: whoever writes into an answer changes what was handed in, or another answer: %v, %v", ss, second)
			}
			gotC, gotR, third, gotE := Split(ss)
			spoil(ss)
			if gotC != c || gotR != r || gotE != e || told(third) != told(want) {
				t.Errorf("R3: Split: whoever writes into what was handed in changes an answer: %v", third)
			}
		}
	}
}

// TestListsApart: the labels of one sample share no memory with those of another, though those that came in do.
func TestListsApart(t *testing.T) {
	for _, s := range []api.Sample{sample(1, "a", "b", "x", "y"), sample(1, "a", "b", "cluster", "c", "replica", "r", "x", "y")} {
		_, _, out, _ := Split([]api.Sample{s, s, s})
		want := told(out[1:])
		ls := out[0].Labels[:cap(out[0].Labels)]
		for i := range ls {
			ls[i] = api.Label{Name: "spoilt"}
		}
		out[0].Labels = append(out[0].Labels, api.Label{Name: "more"})
		if told(out[1:]) != want {
			t.Errorf("R3: %v, not %s", out[1:], want)
		}
	}
}

// TestNothingBehind: behind the lengths of what is handed out lies nothing of what was handed in.
func TestNothingBehind(t *testing.T) {
	for n := range 9 {
		for _, ss := range pushes(n) {
			_, _, out, _ := Split(ss)
			for _, s := range out {
				for _, l := range s.Labels[len(s.Labels):cap(s.Labels)] {
					if l != (api.Label{}) {
						t.Errorf("R3: behind the labels: %v", l)
					}
				}
			}
			for _, s := range out[len(out):cap(out)] {
				if !reflect.DeepEqual(s, api.Sample{}) {
					t.Errorf("R3: behind the samples: %v", s)
				}
			}
		}
	}
}

func TestNilAndEmpty(t *testing.T) {
	for _, ss := range [][]api.Sample{nil, {}, roomy(0, "cluster", "c", "replica", "r")} {
		if c, r, out, e := Split(ss); c != "" || r != "" || len(out) != 0 || e != api.OK {
			t.Errorf("R2: Split of none: %q, %q, %v, %d", c, r, out, e)
		}
	}
	for _, ls := range [][]api.Label{nil, {}, sample(0, "cluster", "c", "replica", "r").Labels[:0]} {
		if e := splitIs(t, []api.Sample{{Labels: ls}}); e != api.OK {
			t.Errorf("R2: Split of a sample without labels: %d", e)
		}
		if e := splitIs(t, []api.Sample{sample(0, "cluster", "c", "replica", "r"), {Labels: ls}}); e != api.ErrHaLabels {
			t.Errorf("R2: Split of one with both labels, and one without labels: %d", e)
		}
	}
	for _, b := range [][]byte{nil, {}, Encode(api.Leader{})[:0]} {
		if l, e := Decode(b); l != (api.Leader{}) || e != api.ErrHaOther {
			t.Errorf("R2: Decode of none: %v, %d", l, e)
		}
	}
}

func TestBytesApart(t *testing.T) {
	l := api.Leader{Replica: "replica-1", Stamp: 300}
	first, second := Encode(l), Encode(l)
	for i := range first[:cap(first)] {
		first[:cap(first)][i] = 0xff
	}
	if !bytes.Equal(second, bytesOf(l)) || !bytes.Equal(Encode(l), second) {
		t.Errorf("R3: Encode: %x", second)
	}
	for _, x := range second[len(second):cap(second)] {
		if x != 0 {
			t.Errorf("R3: behind the bytes: %x", x)
		}
	}
	room := append(slices.Clip(bytesOf(l)), 0, 1, 2)
	was := slices.Clone(room)
	got, e := Decode(room[:len(room)-3])
	if !bytes.Equal(room, was) {
		t.Errorf("R3: Decode changed what was handed in: %x, not %x", room, was)
	}
	clear(room)
	if got != l || e != api.OK {
		t.Errorf("R3: Decode: %v, %d", got, e)
	}
	if got, e := Decode(was[:3]); got != (api.Leader{}) || e != api.ErrHaOther {
		t.Errorf("R3: Decode read what lies behind the length: %v, %d", got, e)
	}
}

// TestSizes: what is great ends in a time that its size explains.
func TestSizes(t *testing.T) {
	start := time.Now()
	var texts []string
	for i := range 14 {
		texts = append(texts, strings.Repeat("n", 63)+string(rune('a'+i)), strings.Repeat("v", api.MaxValue))
	}
	texts = append(texts, "cluster", strings.Repeat("c", api.MaxValue), "replica", strings.Repeat("r", api.MaxValue))
	much := slices.Repeat([]api.Sample{sample(1, texts...)}, 1<<16)
	if _, _, out, e := Split(much); len(out) != len(much) || e != api.OK {
		t.Errorf("P16.1: %d samples: %d, %d", len(much), len(out), e)
	}
	wide := api.Sample{Labels: slices.Repeat([]api.Label{{Name: "a", Value: "b"}}, 1<<20)}
	if c, r, out, e := Split([]api.Sample{wide, wide}); c != "" || r != "" || len(out) != 2 || e != api.OK {
		t.Errorf("P16.1: %d labels: %d, %d", len(wide.Labels), len(out), e)
	}
	long := api.Leader{Replica: strings.Repeat("r", 1<<26), Stamp: 1}
	if l, e := Decode(Encode(long)); l != long || e != api.OK {
		t.Errorf("P16.4: a Replica of %d bytes: %d", len(long.Replica), e)
	}
	Key("t", long.Replica)
	if took := time.Since(start); took > 20*time.Second {
		t.Errorf("R1: took %v", took)
	}
}
