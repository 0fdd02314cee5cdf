package block

import (
	"bytes"
	"encoding/binary"
	"fmt"
	"hash/crc32"
	"math"
	"slices"
	"sort"
	"strings"
	"testing"

	"tidewrack/api"
	"tidewrack/chunk"
	"tidewrack/label"
	"tidewrack/match"
)

// The model lays bytes by the library's numbers, sums and sorting, and reads them by looking for what, laid anew, is the same bytes.

const (
	first = math.MinInt64
	final = math.MaxInt64
)

func set(texts ...string) []api.Label {
	var out []api.Label
	for i := 0; i+1 < len(texts); i += 2 {
		out = append(out, api.Label{Name: texts[i], Value: texts[i+1]})
	}
	return out
}

// run has points at the times, of values that rise from v on.
func run(v uint64, times ...int64) []api.Point {
	var out []api.Point
	for i, t := range times {
		out = append(out, api.Point{T: t, V: v + uint64(i)})
	}
	return out
}

func of(ls []api.Label, ps []api.Point) api.Series {
	return api.Series{Labels: ls, Points: ps}
}

// few are series small enough to be turned in every way.
func few() []api.Series {
	return []api.Series{
		of(set("a", "b"), run(1, -5, 9)),
		of(set("a", "b", "b", "c"), run(api.Stale, 7)),
		of(set("b", "a"), run(0, 0, 60, 120)),
	}
}

// samples are lists of series that may be in a block.
func samples() [][]api.Series {
	long := strings.Repeat("v", api.MaxValue)
	return [][]api.Series{
		few(), few()[:1], few()[1:2], few()[1:],
		{of(nil, run(5, 1))},
		{of(nil, run(5, 1)), of(set("a", "x"), run(5, 1)), of(set("a", "x", "b", "x"), run(5, 1)), of(set("a", "y"), run(5, 1)), of(set("b", "x"), run(5, 1))},
		{of(set("a", "a"), run(0, -api.MaxTime)), of(set("a", "b", "b", "a"), run(math.MaxUint64, api.MaxTime)), of(set("b", "b"), run(3, -api.MaxTime, api.MaxTime))},
		{of(set("__name__", "level", "job", "tide\n\"\\é", "zone", long), run(math.Float64bits(1.5), 1, 61, 121, 181))},
		{of(set("Z", "a", "_", "Z", "a", "_"), run(9, 3)), of(set("_", "Z"), run(9, 3))},
	}
}

func closed(b []byte) []byte {
	return binary.BigEndian.AppendUint32(bytes.Clone(b), crc32.ChecksumIEEE(b))
}

func number(n int) []byte {
	return binary.AppendUvarint(nil, uint64(n))
}

func framed(s string) []byte {
	return append(number(len(s)), s...)
}

// laid are a block's bytes without the sum, be the texts and chunks what they may.
func laid(texts []string, ss []api.Series, chunks []string) []byte {
	b := append([]byte{0x54, 0x57, 0x42, 1}, number(len(texts))...)
	place := map[string]int{}
	for i, s := range texts {
		b = append(b, framed(s)...)
		place[s] = i
	}
	b = append(b, number(len(ss))...)
	for _, s := range ss {
		b = append(b, number(len(s.Labels))...)
		for _, l := range s.Labels {
			b = append(b, number(place[l.Name])...)
			b = append(b, number(place[l.Value])...)
		}
	}
	for _, c := range chunks {
		b = append(b, framed(c)...)
	}
	return b
}

func textList(ss []api.Series) []string {
	var out []string
	for _, s := range ss {
		for _, l := range s.Labels {
			out = append(out, l.Name, l.Value)
		}
	}
	sort.Strings(out)
	return slices.Compact(out)
}

func chunkOf(ps []api.Point) string {
	c, _ := chunk.Encode(ps)
	return string(c)
}

func chunkList(ss []api.Series) []string {
	var out []string
	for _, s := range ss {
		out = append(out, chunkOf(s.Points))
	}
	return out
}

// bodyOf are the bytes of series, without the sum.
func bodyOf(ss []api.Series) []byte {
	return laid(textList(ss), ss, chunkList(ss))
}

func mayBe(ss []api.Series) bool {
	for i, s := range ss {
		if label.Check(s.Labels) != api.OK || i > 0 && label.Compare(ss[i-1].Labels, s.Labels) >= 0 || len(s.Points) == 0 || len(s.Points) > 8191 {
			return false
		}
		for k, p := range s.Points {
			if p.T < -1<<40 || p.T > 1<<40 || k > 0 && p.T <= s.Points[k-1].T {
				return false
			}
		}
	}
	return len(ss) > 0 && len(ss) <= 1024
}

// source reads numbers and texts in whatever form, and says whether there were such.
type source struct {
	left []byte
	bad  bool
}

func (s *source) number(bound uint64) int {
	v, n := binary.Uvarint(s.left)
	if n <= 0 || v >= bound || s.bad {
		s.bad = true
		return 0
	}
	s.left = s.left[n:]
	return int(v)
}

func (s *source) text() string {
	n := s.number(uint64(len(s.left)) + 1)
	if n > len(s.left) {
		s.bad = true
	}
	if s.bad {
		return ""
	}
	out := string(s.left[:n])
	s.left = s.left[n:]
	return out
}

// seriesIn reads a body: of the series that stand there, if it is theirs, laid anew, to the byte.
func seriesIn(body []byte) ([]api.Series, bool) {
	if len(body) < 4 {
		return nil, false
	}
	s := source{left: body[4:]}
	texts := make([]string, s.number(1<<20))
	for i := range texts {
		texts[i] = s.text()
	}
	ss := make([]api.Series, s.number(1<<20))
	for i := range ss {
		ss[i].Labels = make([]api.Label, s.number(1<<10))
		for k := range ss[i].Labels {
			name, value := s.number(uint64(len(texts))), s.number(uint64(len(texts)))
			if !s.bad {
				ss[i].Labels[k] = api.Label{Name: texts[name], Value: texts[value]}
			}
		}
	}
	for i := range ss {
		ps, e := chunk.Decode([]byte(s.text()))
		s.bad = s.bad || e != api.OK
		ss[i].Points = ps
	}
	return ss, !s.bad && mayBe(ss) && bytes.Equal(bodyOf(ss), body)
}

func picked(ss []api.Series, ms []api.Matcher, from, to int64) []api.Series {
	var out []api.Series
	for _, s := range ss {
		var ps []api.Point
		for _, p := range s.Points {
			if from <= p.T && p.T <= to {
				ps = append(ps, p)
			}
		}
		if len(ps) > 0 && match.Says(ms, s.Labels) {
			out = append(out, of(s.Labels, ps))
		}
	}
	return out
}

// told is what series say, unlike for unlike ones.
func told(ss []api.Series) string {
	var out strings.Builder
	for _, s := range ss {
		fmt.Fprintf(&out, "%q%v ", s.Labels, s.Points)
	}
	return out.String()
}

func wantSeries(t *testing.T, what string, got []api.Series, e api.Errno, want []api.Series) {
	t.Helper()
	if a, b := told(got), told(want); e != api.OK || a != b {
		t.Errorf("%s: %d, %.400s, not %.400s", what, e, a, b)
	}
}

// wantNone: no series' bytes, neither to Decode nor to Select.
func wantNone(t *testing.T, what string, b []byte) {
	t.Helper()
	if ss, e := Decode(b); e != api.ErrBlockForm || len(ss) != 0 {
		t.Errorf("P9.2: Decode: %s: %.200x: %d, %.200s", what, b, e, told(ss))
	}
	if ss, e := Select(b, nil, first, final); e != api.ErrBlockForm || len(ss) != 0 {
		t.Errorf("P9.2: Select: %s: %.200x: %d, %.200s", what, b, e, told(ss))
	}
}

// wantAsModel: closed, a body is read as the model reads it. It tells whether it is a block's.
func wantAsModel(t *testing.T, what string, body []byte) bool {
	t.Helper()
	want, ok := seriesIn(body)
	b := closed(body)
	if !ok {
		wantNone(t, what, b)
		return false
	}
	got, e := Decode(b)
	wantSeries(t, "P9.2: "+what, got, e, want)
	if again, e := Encode(got); e != api.OK || !bytes.Equal(again, b) {
		t.Errorf("P9.4: %s: Encode of Decode of %x: %x, %d", what, b, again, e)
	}
	return true
}
