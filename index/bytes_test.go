package index

import (
	"bytes"
	"encoding/binary"
	"math"
	"slices"
	"testing"

	"tidewrack/api"
)

// kept are indexes of all forms that may be.
func kept() []api.Index {
	out := []api.Index{
		{}, {Version: math.MaxUint64, Floor: api.MaxTime}, {Version: 127, Floor: -api.MaxTime}, {Version: 128, Floor: 63}, {Floor: 64}, {Floor: -64}, {Floor: -65},
		allLive(meta(1, -5, 9, 3, 4), meta(9, 0, 0)), indexOf(dead(0, meta(1, 0, 0))), indexOf(dead(lowest, meta(0, lowest, highest)), live(meta(1, 0, 1)), dead(highest, meta(math.MaxUint64, 0, 1))),
		full(20),
	}
	for _, m := range rightMetas() {
		out = append(out, indexOf(live(m)), indexOf(dead(-1, m)))
	}
	return out
}

func TestBytesWrittenOut(t *testing.T) {
	for _, x := range []struct {
		ix   api.Index
		body string
	}{
		{api.Index{}, "\x00\x00\x00"},
		{api.Index{Version: 300, Floor: -7}, "\xac\x02\x0d\x00"},
		{api.Index{Version: 1, Floor: 5, Blocks: []api.Entry{live(api.Meta{ID: 7, Min: -1, Max: 3, Level: 1, Sources: []uint64{2, 300}, Series: 4, Points: 9})}}, "\x01\x0a\x01" + "\x12" + string(sealed([]byte("TWM\x01\x07\x01\x04\x09\x01\x06\x02\x02\xac\x02"))) + "\x00\x00"},
		{api.Index{Blocks: []api.Entry{dead(-1, api.Meta{}), live(api.Meta{ID: 1})}}, "\x00\x00\x02" + "\x0f" + string(sealed([]byte("TWM\x01\x00\x00\x00\x00\x00\x00\x00"))) + "\x01\x01" + "\x0f" + string(sealed([]byte("TWM\x01\x01\x00\x00\x00\x00\x00\x00"))) + "\x00\x00"},
	} {
		want := sealed([]byte(x.body))
		if b, e := Encode(x.ix); e != api.OK || !bytes.Equal(b, want) {
			t.Errorf("P14.1: Encode(%v): %x, %d, not %x", x.ix, b, e, want)
		}
		if ix, e := Decode(want); e != api.OK || told(ix) != told(x.ix) {
			t.Errorf("P14.1: Decode(%x): %v, %d, not %v", want, ix, e, x.ix)
		}
	}
	// The sum of three noughts, by another's table.
	if b, _ := Encode(api.Index{}); !bytes.Equal(b, []byte{0, 0, 0, 0xff, 0x41, 0xd9, 0x12}) {
		t.Errorf("P14.1: %x", b)
	}
}

// wantBody holds Decode of a body under its sum against the model, and tells whether it is an index'.
func wantBody(t *testing.T, what string, body []byte) bool {
	t.Helper()
	b := sealed(body)
	want, ok := modelIn(body)
	got, e := Decode(b)
	if !ok {
		if e != api.ErrIndexForm || told(got) != told(api.Index{}) {
			t.Errorf("P14.1: %s: Decode(%x): %v, %d", what, b, got, e)
		}
		return false
	}
	if e != api.OK || told(got) != told(want) {
		t.Errorf("P14.1: %s: Decode(%x): %v, %d, not %v", what, b, got, e, want)
	}
	if again, e := Encode(got); e != api.OK || !bytes.Equal(again, b) {
		t.Errorf("P14.1: %s: Encode of Decode of %x: %x, %d", what, b, again, e)
	}
	return true
}

func TestThereAndBack(t *testing.T) {
	indexes := kept()
	c := newChance(5)
	for range 1000 {
		indexes = append(indexes, c.index(20, 40, 6, 1000, 100))
	}
	for _, ix := range indexes {
		b, e := Encode(ix)
		if e != api.OK || !bytes.Equal(b, sealed(modelBody(ix))) {
			t.Errorf("P14.1: Encode(%v): %x, %d", ix, b, e)
		}
		if got, e := Decode(b); e != api.OK || told(got) != told(ix) {
			t.Errorf("P14.1: Decode of Encode of %v: %v, %d", ix, got, e)
		}
		if !wantBody(t, "there and back", modelBody(ix)) {
			t.Errorf("%v: no index to the model", ix)
		}
	}
}

func wantNone(t *testing.T, what string, b []byte) {
	t.Helper()
	if ix, e := Decode(b); e != api.ErrIndexForm || told(ix) != told(api.Index{}) {
		t.Errorf("P14.1: %s: Decode(%x): %v, %d", what, b, ix, e)
	}
}

// TestDamaged: each bit turned, each beginning, and anything behind.
func TestDamaged(t *testing.T) {
	for _, ix := range kept() {
		b, _ := Encode(ix)
		for k := range b {
			for bit := range 8 {
				turned := bytes.Clone(b)
				turned[k] ^= 1 << bit
				wantNone(t, "a bit turned", turned)
			}
			wantNone(t, "a beginning", b[:k:k])
			wantNone(t, "an end", b[k+1:])
		}
		for _, more := range [][]byte{{0}, {1}, {0x80}, b} {
			wantNone(t, "more behind", slices.Concat(b, more))
		}
		wantNone(t, "the sum turned round", slices.Concat(b[:len(b)-4], []byte{b[len(b)-1], b[len(b)-2], b[len(b)-3], b[len(b)-4]}))
		wantNone(t, "sealed twice", sealed(b))
	}
}

// TestChangedBodies: each byte changed, left out or put twice, under a sum that is right.
func TestChangedBodies(t *testing.T) {
	some := 0
	for _, ix := range kept() {
		body := modelBody(ix)
		for i := range body {
			if len(body) > 60 && i%23 > 0 {
				continue
			}
			for x := range 256 {
				other := bytes.Clone(body)
				other[i] = byte(x)
				if wantBody(t, "a byte changed", other) {
					some++
				}
				if x%16 == 0 {
					wantBody(t, "a byte more", slices.Insert(bytes.Clone(body), i, byte(x)))
				}
			}
			wantBody(t, "a byte less", slices.Delete(bytes.Clone(body), i, i+1))
			wantBody(t, "a beginning", body[:i:i])
		}
		for _, more := range [][]byte{{0}, {1}, {0x80}} {
			if wantBody(t, "more behind", slices.Concat(body, more)) {
				t.Errorf("P14.1: %x with %x behind is an index' body", body, more)
			}
		}
	}
	if some < 1000 {
		t.Errorf("only %d changed bodies are an index'", some)
	}
}

// TestWrongIndexes: what may not be is not read either.
func TestWrongIndexes(t *testing.T) {
	var wrong []api.Index
	for _, m := range wrongMetas() {
		wrong = append(wrong, indexOf(live(m)), indexOf(live(meta(1, 0, 9)), dead(4, m), live(meta(9, 0, 9))))
	}
	unmarked := live(meta(1, 0, 9))
	unmarked.At = 5
	wrong = append(wrong, indexOf(unmarked), floored(api.MaxTime+1, full(2)), floored(-api.MaxTime-1, full(2)), floored(lowest, indexOf()), floored(highest, indexOf()))
	wrong = append(wrong, full(257), full(300), allLive(meta(1, 0, 9), meta(1, 0, 9)), allLive(meta(2, 0, 9), meta(1, 0, 9)), allLive(meta(1, 0, 9), meta(3, 0, 9), meta(2, 0, 9)))
	for _, ix := range wrong {
		if wantBody(t, "a wrong index", modelBody(ix)) {
			t.Errorf("P14.1: %v: an index' bytes", ix)
		}
	}
	for _, n := range []int{255, 256} {
		if !wantBody(t, "many entries", modelBody(full(n))) {
			t.Errorf("P14.1: %d entries are no index'", n)
		}
	}
}

// TestShortBodies: all of five bytes at most, out of those that mean something; none has room for an entry.
func TestShortBodies(t *testing.T) {
	bodies := [][]byte{{}}
	some := 0
	for i := 0; i < len(bodies); i++ {
		if wantBody(t, "a short body", bodies[i]) {
			some++
		}
		for _, x := range []byte{0, 1, 2, 15, 0x7f, 0x80, 0xff} {
			if len(bodies[i]) < 5 {
				bodies = append(bodies, append(bytes.Clone(bodies[i]), x))
			}
		}
	}
	// A number of n bytes: all but the last are 80 or ff, and the last is not, nor 0 behind others.
	of := func(n int) int {
		if n == 1 {
			return 5
		}
		return 4 << (n - 1)
	}
	want := of(1)*of(1) + 2*of(1)*of(2) + 2*of(1)*of(3) + of(2)*of(2)
	if some != want {
		t.Errorf("P14.1: %d of all short bodies are an index', not %d", some, want)
	}
}

func TestOtherForms(t *testing.T) {
	m := string(modelMetaBytes(meta(1, 0, 9)))
	text := func(s string) string { return string(binary.AppendUvarint(nil, uint64(len(s)))) + s }
	for _, x := range []struct{ what, body string }{
		{"no bytes", ""},
		{"a Version alone", "\x01"},
		{"a Version and a Floor alone", "\x01\x02"},
		{"a Version in two bytes", "\x80\x00\x00\x00"},
		{"a Version of 2^64", "\x80\x80\x80\x80\x80\x80\x80\x80\x80\x02\x00\x00"},
		{"a Floor in two bytes", "\x00\x80\x00\x00"},
		{"a number of entries in two bytes", "\x00\x00\x80\x00"},
		{"an entry too few", "\x00\x00\x02" + text(m) + "\x00\x00"},
		{"an entry too many", "\x00\x00\x00" + text(m) + "\x00\x00"},
		{"2^63 entries", "\x00\x00\x80\x80\x80\x80\x80\x80\x80\x80\x80\x01" + text(m) + "\x00\x00"},
		{"2^40 entries", "\x00\x00\x80\x80\x80\x80\x80\x20" + text(m) + "\x00\x00"},
		{"2^32 + 1 entries", "\x00\x00\x81\x80\x80\x80\x10" + text(m) + "\x00\x00"},
		{"2^64 - 1 entries", "\x00\x00\xff\xff\xff\xff\xff\xff\xff\xff\xff\x01" + text(m) + "\x00\x00"},
		{"a meta without its length", "\x00\x00\x01" + m + "\x00\x00"},
		{"a meta's length in two bytes", "\x00\x00\x01\x8f\x00" + m + "\x00\x00"},
		{"a meta without its sum", "\x00\x00\x01" + text(m[:len(m)-4]) + "\x00\x00"},
		{"a meta with a wrong sum", "\x00\x00\x01" + text(m[:len(m)-1]+"!") + "\x00\x00"},
		{"a meta and more", "\x00\x00\x01" + text(m+"\x00") + "\x00\x00"},
		{"an empty meta", "\x00\x00\x01\x00\x00\x00"},
		{"a block's mark", "\x00\x00\x01" + text(string(sealed([]byte("TWB\x01\x01\x00\x00\x00\x00\x12\x00")))) + "\x00\x00"},
		{"Marked as 2", "\x00\x00\x01" + text(m) + "\x02\x00"},
		{"Marked as 2^64 - 1", "\x00\x00\x01" + text(m) + "\xff\xff\xff\xff\xff\xff\xff\xff\xff\x01\x00"},
		{"Marked as 2^32 + 1", "\x00\x00\x01" + text(m) + "\x81\x80\x80\x80\x10\x00"},
		{"Marked in two bytes", "\x00\x00\x01" + text(m) + "\x81\x00\x00"},
		{"no Marked", "\x00\x00\x01" + text(m)},
		{"no At", "\x00\x00\x01" + text(m) + "\x01"},
		{"At in two bytes", "\x00\x00\x01" + text(m) + "\x01\x80\x00"},
		{"At of what is not Marked", "\x00\x00\x01" + text(m) + "\x00\x02"},
		{"At of 2^64", "\x00\x00\x01" + text(m) + "\x01\x80\x80\x80\x80\x80\x80\x80\x80\x80\x02"},
		{"like IDs", "\x00\x00\x02" + text(m) + "\x00\x00" + text(m) + "\x00\x00"},
	} {
		if wantBody(t, x.what, []byte(x.body)) {
			t.Errorf("P14.1: %s: an index' body", x.what)
		}
	}
	for _, body := range []string{"\x00\x00\x01" + text(m) + "\x00\x00", "\x00\x00\x01" + text(m) + "\x01\x00", "\x00\x00\x01" + text(m) + "\x01\x7f"} {
		if !wantBody(t, "a right one", []byte(body)) {
			t.Errorf("P14.1: %x: no index' body", body)
		}
	}
	for n := range 8 {
		wantNone(t, "noughts", make([]byte, n))
		wantNone(t, "ones", bytes.Repeat([]byte{0xff}, n))
	}
}
