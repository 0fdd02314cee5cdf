package block

import (
	"bytes"
	"errors"
	"fmt"
	"slices"
	"strings"
	"testing"
	"time"

	"tidewrack/api"
)

// roomy are the series of few, each list with something behind its length.
func roomy() []api.Series {
	ss := few()
	for i, s := range ss {
		ss[i].Labels = append(slices.Clone(s.Labels), set("zz", "behind")...)[:len(s.Labels)]
		ss[i].Points = append(slices.Clone(s.Points), run(77, 1, 1)...)[:len(s.Points)]
	}
	return append(ss, of(set("zz", "behind"), run(77, 1)))[:3]
}

// toldWhole tells what lies behind the lengths, too.
func toldWhole(ss []api.Series) string {
	ss = slices.Clone(ss[:cap(ss)])
	for i, s := range ss {
		ss[i] = of(s.Labels[:cap(s.Labels)], s.Points[:cap(s.Points)])
	}
	return told(ss)
}

// TestWhatComesIn: neither changed, nor read behind its length.
func TestWhatComesIn(t *testing.T) {
	ss := roomy()
	was := toldWhole(ss)
	b, e := Encode(ss)
	if Check(ss) != api.OK || e != api.OK || !bytes.Equal(b, closed(bodyOf(few()))) {
		t.Errorf("R3: Encode: %x, %d", b, e)
	}
	ids := []uint64{1, 5, 3, 3}
	m, e := Meta(ss, 7, 1, ids[:2])
	if e != api.OK || fmt.Sprint(m) != "{7 -5 120 1 [1 5] 3 6}" {
		t.Errorf("R3: Meta: %v, %d", m, e)
	}
	if toldWhole(ss) != was || fmt.Sprint(ids) != "[1 5 3 3]" {
		t.Errorf("R3: what was handed in is changed: %s, %v", toldWhole(ss), ids)
	}
	ids[0] = 2
	if fmt.Sprint(m.Sources) != "[1 5]" {
		t.Errorf("R3: Meta keeps its sources: %v", m)
	}
	_ = append(m.Sources, 9)
	if ids[2] != 3 {
		t.Errorf("R3: Meta shares its sources: %v", ids)
	}
	wide := api.Meta{Sources: ids[:2]}
	if _, e := EncodeMeta(wide); e != api.OK || fmt.Sprint(ids) != "[2 5 3 3]" {
		t.Errorf("R3: EncodeMeta: %d, %v", e, ids)
	}

	room := append(bytes.Clone(b), "behind"...)
	ms := []api.Matcher{asks(api.MatchEq, "a", "b"), asks(api.MatchEq, "a", "none")}
	got, e := Decode(room[:len(b)])
	wantSeries(t, "R3: Decode", got, e, few())
	got, e = Select(room[:len(b)], ms[:1], first, final)
	wantSeries(t, "R3: Select", got, e, few()[:2])
	if string(room) != string(b)+"behind" || fmt.Sprint(ms) != "[{1 a b} {1 a none}]" {
		t.Errorf("R3: what was handed in is changed: %x, %v", room, ms)
	}
	for i := range room {
		room[i] = 'x'
	}
	wantSeries(t, "R3: what Select handed out, its bytes overwritten", got, e, few()[:2])
}

// TestWhatGoesOut: no two lists of an answer share memory, and nothing stands behind their lengths.
func TestWhatGoesOut(t *testing.T) {
	b, _ := Encode(wide())
	for _, x := range []struct {
		what string
		ask  func() ([]api.Series, api.Errno)
	}{
		{"Decode", func() ([]api.Series, api.Errno) { return Decode(b) }},
		{"Select", func() ([]api.Series, api.Errno) { return Select(b, nil, -10, 5) }},
	} {
		ss, e := x.ask()
		want := told(ss)
		for _, s := range ss {
			for _, p := range s.Points[len(s.Points):cap(s.Points)] {
				if p != (api.Point{}) {
					t.Errorf("R3: %s: a point behind an answer's length: %v", x.what, p)
				}
			}
			_ = append(s.Labels, set("zz", "spoilt")...)
			_ = append(s.Points, run(99, 99)...)
		}
		if e != api.OK || told(ss) != want {
			t.Errorf("R3: lists of %s share memory: %d, %s", x.what, e, told(ss))
		}
		for i := range ss {
			for k := range ss[i].Labels {
				ss[i].Labels[k].Value = "spoilt"
			}
			for k := range ss[i].Points {
				ss[i].Points[k].V = 99
			}
			if i+1 < len(ss) && strings.Contains(told(ss[i+1:]), "spoilt") {
				t.Errorf("R3: lists of %s share memory: %s", x.what, told(ss))
			}
		}
		again, e := x.ask()
		if e != api.OK || told(again) != want {
			t.Errorf("R3: %s hands out what it keeps: %s", x.what, told(again))
		}
	}
}

// widest has as many labels as may be, as long as may be, unlike in all Values.
func widest(i int) []api.Label {
	var out []api.Label
	for k := range api.MaxLabels {
		out = append(out, api.Label{Name: strings.Repeat("n", api.MaxName-1) + string(rune('a'+k)), Value: fmt.Sprintf("%s%04d%02d", strings.Repeat("v", api.MaxValue-6), i, k)})
	}
	return out
}

// TestSize: what is asked of great blocks ends in a time that their size explains.
func TestSize(t *testing.T) {
	start := time.Now()
	var many, long []api.Series
	for i := range api.MaxSeries {
		many = append(many, of(widest(i), run(uint64(i)<<40, int64(i), int64(i)+60)))
	}
	for i := range 64 {
		ps := steps(api.MaxPoints)
		for k := range ps {
			ps[k].T = int64(k) * int64(k) * int64(k%100+1)
			ps[k].V = uint64(k) * 0x9e3779b97f4a7c15
		}
		slices.SortFunc(ps, func(a, b api.Point) int { return int(a.T - b.T) })
		long = append(long, of(nth(i), slices.CompactFunc(ps, func(a, b api.Point) bool { return a.T == b.T })))
	}
	for _, ss := range [][]api.Series{many, long} {
		b, e := Encode(ss)
		if e != api.OK || !bytes.Equal(b, closed(bodyOf(ss))) {
			t.Fatalf("P9.1: %d series: %d bytes, %d", len(ss), len(b), e)
		}
		got, e := Decode(b)
		if e != api.OK || !slices.EqualFunc(got, ss, func(a, b api.Series) bool {
			return slices.Equal(a.Labels, b.Labels) && slices.Equal(a.Points, b.Points)
		}) {
			t.Errorf("P9.2: %d series: %d, %d", len(ss), len(got), e)
		}
		some, e := Select(b, []api.Matcher{asks(api.MatchLike, "i", "*7")}, 100, 10000)
		wantSeries(t, "P9.2: Select", some, e, picked(ss, []api.Matcher{asks(api.MatchLike, "i", "*7")}, 100, 10000))
	}
	if took := time.Since(start); took > 20*time.Second {
		t.Errorf("great blocks took %v", took)
	}
}

// TestCaught: only what the reader throws is caught; a fault of the program is not to pass for bytes that are wrong.
func TestCaught(t *testing.T) {
	if v, ok := caught(func() int { must(true); return 7 }); v != 7 || !ok {
		t.Errorf("%d, %v", v, ok)
	}
	if v, ok := caught(func() int { must(false); return 7 }); v != 0 || ok {
		t.Errorf("%d, %v", v, ok)
	}
	fault := errors.New("a fault")
	defer func() {
		if thrown := recover(); thrown != fault {
			t.Errorf("%v", thrown)
		}
	}()
	caught(func() int { panic(fault) })
}
