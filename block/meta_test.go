package block

import (
	"bytes"
	"encoding/binary"
	"fmt"
	"math"
	"slices"
	"testing"

	"tidewrack/api"
)

// rising has n numbers from v on.
func rising(v uint64, n int) []uint64 {
	var out []uint64
	for i := range n {
		out = append(out, v+uint64(i))
	}
	return out
}

// someMetas may be.
func someMetas() []api.Meta {
	const most = 1<<31 - 1
	return []api.Meta{
		{}, {ID: 7, Min: 5, Max: 9, Level: 1, Series: 1, Points: 2},
		{ID: math.MaxUint64, Min: -5, Max: 9, Level: 3, Sources: []uint64{1, 5}, Series: 2, Points: 3},
		{Min: first, Max: final, Level: most, Series: most, Points: most},
		{Min: first, Max: first}, {Min: final, Max: final}, {Min: -1, Max: -1}, {Min: -1, Max: 0},
		{Sources: []uint64{0}}, {Sources: []uint64{math.MaxUint64}}, {Sources: []uint64{0, math.MaxUint64}}, {ID: 3, Sources: []uint64{3}},
		{Sources: rising(0, 63)}, {Sources: rising(0, 64)}, {Sources: rising(math.MaxUint64-63, 64)}, {ID: 128, Level: 127, Series: 128, Points: 16384, Min: 63, Max: 64, Sources: []uint64{127, 128, 1 << 32}},
	}
}

// metaBody are a meta's bytes, without the sum, be it what it may.
func metaBody(m api.Meta) []byte {
	b := []byte{0x54, 0x57, 0x4d, 1}
	for _, v := range []uint64{m.ID, uint64(m.Level), uint64(m.Series), uint64(m.Points)} {
		b = binary.AppendUvarint(b, v)
	}
	b = binary.AppendVarint(binary.AppendVarint(b, m.Min), m.Max)
	b = binary.AppendUvarint(b, uint64(len(m.Sources)))
	for _, v := range m.Sources {
		b = binary.AppendUvarint(b, v)
	}
	return b
}

func metaMay(m api.Meta) bool {
	for _, n := range []int{m.Level, m.Series, m.Points} {
		if n < 0 || n > 2147483647 {
			return false
		}
	}
	for i, id := range m.Sources {
		if i > 63 || i > 0 && id <= m.Sources[i-1] {
			return false
		}
	}
	return m.Min <= m.Max
}

// metaIn reads a body as seriesIn does.
func metaIn(body []byte) (api.Meta, bool) {
	if len(body) < 4 {
		return api.Meta{}, false
	}
	left, bad := body[4:], false
	unsigned := func() uint64 {
		v, n := binary.Uvarint(left)
		bad = bad || n <= 0
		left = left[max(n, 0):]
		return v
	}
	signed := func() int64 {
		v := unsigned()
		return int64(v>>1) ^ -int64(v&1)
	}
	var m api.Meta
	m.ID, m.Level, m.Series, m.Points = unsigned(), int(unsigned()), int(unsigned()), int(unsigned())
	m.Min, m.Max = signed(), signed()
	for range min(unsigned(), 1000) {
		m.Sources = append(m.Sources, unsigned())
	}
	return m, !bad && metaMay(m) && bytes.Equal(metaBody(m), body)
}

func wantNoMeta(t *testing.T, what string, b []byte) {
	t.Helper()
	if m, e := DecodeMeta(b); e != api.ErrBlockMeta || fmt.Sprint(m) != fmt.Sprint(api.Meta{}) {
		t.Errorf("P9.3: DecodeMeta: %s: %x: %v, %d", what, b, m, e)
	}
}

func wantMetaAsModel(t *testing.T, what string, body []byte) bool {
	t.Helper()
	want, ok := metaIn(body)
	b := closed(body)
	if !ok {
		wantNoMeta(t, what, b)
		return false
	}
	got, e := DecodeMeta(b)
	if e != api.OK || fmt.Sprint(got) != fmt.Sprint(want) {
		t.Errorf("P9.3: DecodeMeta: %s: %x: %v, %d, not %v", what, b, got, e, want)
	}
	if again, e := EncodeMeta(got); e != api.OK || !bytes.Equal(again, b) {
		t.Errorf("P9.4: %s: EncodeMeta of DecodeMeta of %x: %x, %d", what, b, again, e)
	}
	return true
}

// TestMetaBytes: a meta's bytes, written out.
func TestMetaBytes(t *testing.T) {
	for _, x := range []struct {
		m    api.Meta
		want string
	}{
		{api.Meta{}, "TWM\x01\x00\x00\x00\x00\x00\x00\x00"},
		{api.Meta{ID: 300, Min: -5, Max: 9, Level: 1, Sources: []uint64{6, 300}, Series: 2, Points: 3}, "TWM\x01\xac\x02\x01\x02\x03\x09\x12\x02\x06\xac\x02"},
	} {
		if b, e := EncodeMeta(x.m); e != api.OK || !bytes.Equal(b, closed([]byte(x.want))) {
			t.Errorf("P9.3: %v: %x, %d", x.m, b, e)
		}
	}
}

func TestMetasThereAndBack(t *testing.T) {
	for _, m := range someMetas() {
		b, e := EncodeMeta(m)
		if e != api.OK || !bytes.Equal(b, closed(metaBody(m))) {
			t.Errorf("P9.3: EncodeMeta(%v): %x, %d", m, b, e)
		}
		if got, e := DecodeMeta(b); e != api.OK || fmt.Sprint(got) != fmt.Sprint(m) {
			t.Errorf("P9.4: %v: %v, %d", m, got, e)
		}
		if !wantMetaAsModel(t, fmt.Sprint(m), metaBody(m)) {
			t.Errorf("P9.3: %v: no meta to the model", m)
		}
	}
}

// wrongMetas may not be, each by one fault.
func wrongMetas() []api.Meta {
	var out []api.Meta
	for _, n := range []int{-1, -2, 1 << 31, 1<<31 + 1, 1 << 32, 1<<32 + 1, 1 << 62, math.MinInt, math.MaxInt} {
		out = append(out, api.Meta{Level: n}, api.Meta{Series: n}, api.Meta{Points: n})
	}
	for _, ids := range [][]uint64{{0, 0}, {2, 2}, {3, 2}, {1, 2, 2}, {1, 3, 2}, {2, 1, 3}, {math.MaxUint64, 0}, {1, math.MaxUint64, 2}, rising(0, 65), rising(0, 66), rising(5, 1000), rising(math.MaxUint64, 2)} {
		out = append(out, api.Meta{Sources: ids})
	}
	for _, x := range [][2]int64{{1, 0}, {0, -1}, {final, first}, {final, final - 1}, {first + 1, first}, {5, -5}} {
		out = append(out, api.Meta{Min: x[0], Max: x[1]})
	}
	return out
}

func TestWrongMetas(t *testing.T) {
	for _, m := range wrongMetas() {
		if b, e := EncodeMeta(m); e != api.ErrBlockMeta || len(b) != 0 {
			t.Errorf("P9.3: EncodeMeta(%v): %x, %d", m, b, e)
		}
		if wantMetaAsModel(t, fmt.Sprint(m), metaBody(m)) {
			t.Errorf("%v: a meta to the model", m)
		}
	}
}

func TestDamagedMetas(t *testing.T) {
	for _, m := range someMetas() {
		b, _ := EncodeMeta(m)
		for _, x := range damaged(b) {
			wantNoMeta(t, x.what, x.b)
		}
	}
	block, _ := Encode(few())
	wantNoMeta(t, "a block", block)
}

func TestChangedMetas(t *testing.T) {
	for _, m := range someMetas() {
		some := 0
		for i, body := range changed(metaBody(m)) {
			if len(body) > 100 && i%7 > 0 {
				continue
			}
			if wantMetaAsModel(t, "a body changed", body) {
				some++
			}
			if len(body) > 20 || i%211 > 0 {
				continue
			}
			for _, more := range changed(body) {
				wantMetaAsModel(t, "a body changed twice", more)
			}
		}
		if some < 100 {
			t.Errorf("%v: only %d changed bodies are metas", m, some)
		}
	}
}

func TestOtherFormsOfMetas(t *testing.T) {
	for _, x := range []struct{ what, body string }{
		{"no bytes", ""},
		{"a mark alone", "TWM\x01"},
		{"a block's mark", "TWB\x01\x00\x00\x00\x00\x00\x00\x00"},
		{"another mark", "TWM\x02\x00\x00\x00\x00\x00\x00\x00"},
		{"no mark", "\x00\x00\x00\x00\x00\x00\x00"},
		{"an ID in two bytes", "TWM\x01\x80\x00\x00\x00\x00\x00\x00\x00"},
		{"a Level in two bytes", "TWM\x01\x00\x80\x00\x00\x00\x00\x00\x00"},
		{"a Min in two bytes", "TWM\x01\x00\x00\x00\x00\x80\x00\x00\x00"},
		{"a number of Sources in two bytes", "TWM\x01\x00\x00\x00\x00\x00\x00\x80\x00"},
		{"a Source in two bytes", "TWM\x01\x00\x00\x00\x00\x00\x00\x01\x80\x00"},
		{"a Source too few", "TWM\x01\x00\x00\x00\x00\x00\x00\x02\x01"},
		{"a Source too many", "TWM\x01\x00\x00\x00\x00\x00\x00\x01\x01\x02"},
		{"2^63 Sources", "TWM\x01\x00\x00\x00\x00\x00\x00\x80\x80\x80\x80\x80\x80\x80\x80\x80\x01\x01"},
		{"2^40 Sources", "TWM\x01\x00\x00\x00\x00\x00\x00\x80\x80\x80\x80\x80\x20\x01"},
		{"an ID of 2^64", "TWM\x01\x80\x80\x80\x80\x80\x80\x80\x80\x80\x02\x00\x00\x00\x00\x00\x00"},
		{"a Level of 2^32", "TWM\x01\x00\x80\x80\x80\x80\x10\x00\x00\x00\x00\x00"},
		{"a Level of 2^64 - 1", "TWM\x01\x00\xff\xff\xff\xff\xff\xff\xff\xff\xff\x01\x00\x00\x00\x00\x00"},
		{"a Series of 2^31", "TWM\x01\x00\x00\x80\x80\x80\x80\x08\x00\x00\x00\x00"},
		{"Points of 2^31", "TWM\x01\x00\x00\x00\x80\x80\x80\x80\x08\x00\x00\x00"},
		{"a Min above Max", "TWM\x01\x00\x00\x00\x00\x02\x00\x00"},
	} {
		if wantMetaAsModel(t, x.what, []byte(x.body)) {
			t.Errorf("%s: a meta to the model", x.what)
		}
		wantNoMeta(t, x.what, closed([]byte(x.body)))
	}
}

// TestMetaOfSeries: level and sources at their edges; what is wrong with the series goes ahead.
func TestMetaOfSeries(t *testing.T) {
	for _, x := range someMetas() {
		m, e := Meta(few(), x.ID, x.Level, x.Sources)
		want := api.Meta{ID: x.ID, Min: -5, Max: 120, Level: x.Level, Sources: x.Sources, Series: 3, Points: 6}
		if e != api.OK || fmt.Sprint(m) != fmt.Sprint(want) {
			t.Errorf("P9.3: Meta of %v: %v, %d", x, m, e)
		}
	}
	for _, x := range wrongMetas() {
		m, e := Meta(few(), 7, x.Level, x.Sources)
		want := api.ErrBlockMeta
		if x.Level == 0 && len(x.Sources) == 0 {
			want = api.OK
		}
		if e != want || want != api.OK && fmt.Sprint(m) != fmt.Sprint(api.Meta{}) {
			t.Errorf("P9.3: Meta of %v: %v, %d, not %d", x, m, e, want)
		}
		if m, e := Meta(slices.Repeat(few(), 2), 7, x.Level, x.Sources); e != api.ErrBlockSeries || fmt.Sprint(m) != fmt.Sprint(api.Meta{}) {
			t.Errorf("P9.3: Meta of wrong series: %v, %d", m, e)
		}
	}
}

// TestMetaSpans: the least and the greatest T, in whichever series they stand.
func TestMetaSpans(t *testing.T) {
	sets := [][]api.Label{nil, set("a", "x"), set("a", "y")}
	runs := [][]api.Point{run(1, -api.MaxTime), run(1, api.MaxTime), run(1, -3, 0, 8), run(1, 0), run(1, -9, -7), run(1, 7, 9, 12)}
	for _, list := range listsOf(3, runs...) {
		var ss []api.Series
		var times []int64
		for i, ps := range list {
			ss = append(ss, of(sets[i], ps))
			for _, p := range ps {
				times = append(times, p.T)
			}
		}
		if len(ss) == 0 {
			continue
		}
		m, e := Meta(ss, 1, 1, nil)
		if e != api.OK || m.Min != slices.Min(times) || m.Max != slices.Max(times) || m.Points != len(times) || m.Series != len(ss) {
			t.Errorf("P9.3: %s: %v, %d", told(ss), m, e)
		}
	}
}
