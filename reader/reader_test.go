package reader

import (
	"encoding/binary"
	"math"
	"slices"
	"testing"
)

func laid(numbers ...uint64) []byte {
	var out []byte
	for _, v := range numbers {
		out = binary.AppendUvarint(out, v)
	}
	return out
}

func text(s string) []byte {
	return append(laid(uint64(len(s))), s...)
}

func TestPieces(t *testing.T) {
	b := slices.Concat(laid(300, 7), text("tide"), text(""), laid(math.MaxUint64))
	r := Of(b)
	if a, c, s, none := r.Number(), r.UpTo(7), r.Text(), r.Text(); a != 300 || c != 7 || s != "tide" || none != "" || r.Whole() {
		t.Errorf("%d, %d, %q, %q, %v", a, c, s, none, r.Whole())
	}
	if v := r.Number(); v != math.MaxUint64 || !r.Whole() {
		t.Errorf("%d, %v", v, r.Whole())
	}
	if v := r.Number(); v != 0 || r.Whole() {
		t.Errorf("behind the end: %d, %v", v, r.Whole())
	}
}

func TestNothing(t *testing.T) {
	for _, b := range [][]byte{nil, {}} {
		if !Of(b).Whole() {
			t.Error("no bytes are whole")
		}
		for what, ask := range map[string]func(*Reader) bool{
			"Number": func(r *Reader) bool { return r.Number() == 0 },
			"Signed": func(r *Reader) bool { return r.Signed() == 0 },
			"UpTo":   func(r *Reader) bool { return r.UpTo(5) == 0 },
			"Text":   func(r *Reader) bool { return r.Text() == "" },
		} {
			if r := Of(b); !ask(r) || r.Whole() {
				t.Errorf("%s of no bytes: %v", what, r.Whole())
			}
		}
	}
}

func TestUpTo(t *testing.T) {
	for _, most := range []uint64{0, 1, 127, 128, math.MaxUint32, math.MaxInt64, math.MaxUint64 - 1, math.MaxUint64} {
		for _, v := range []uint64{0, 1, most - 1, most, most + 1, math.MaxUint64} {
			r := Of(laid(v))
			want := v
			if v > most {
				want = 0
			}
			if got := r.UpTo(most); got != want || r.Whole() != (v <= most) {
				t.Errorf("%d up to %d: %d, %v", v, most, got, r.Whole())
			}
		}
	}
}

func TestSigned(t *testing.T) {
	for _, v := range []int64{0, -1, 1, -64, 63, -65, 64, math.MinInt64, math.MaxInt64} {
		r := Of(slices.Concat(binary.AppendVarint(nil, v), laid(5)))
		if got, behind := r.Signed(), r.Number(); got != v || behind != 5 || !r.Whole() {
			t.Errorf("%d: %d, %d, %v", v, got, behind, r.Whole())
		}
	}
	for _, wrong := range [][]byte{{0x80, 0}, {0x80}, {0xff, 0xff, 0xff, 0xff, 0xff, 0xff, 0xff, 0xff, 0xff, 2}} {
		if r := Of(wrong); r.Signed() != 0 || r.Whole() {
			t.Errorf("%x: %v", wrong, r.Whole())
		}
	}
}

// TestWrongStaysWrong: behind a piece that is wrong all is nothing, though it could be read.
func TestWrongStaysWrong(t *testing.T) {
	for what, wrong := range map[string][]byte{"a needless byte": {0x80, 0}, "above the most": {9}} {
		r := Of(slices.Concat(wrong, laid(5), text("tide")))
		if v := r.UpTo(8); v != 0 {
			t.Errorf("%s: %d", what, v)
		}
		if a, c, i, s := r.Number(), r.UpTo(8), r.Signed(), r.Text(); a != 0 || c != 0 || i != 0 || s != "" || r.Whole() {
			t.Errorf("behind %s: %d, %d, %d, %q, %v", what, a, c, i, s, r.Whole())
		}
	}
	r := Of([]byte{5, 'a'})
	if s := r.Text(); s != "" || r.Number() != 0 || r.Whole() {
		t.Errorf("a text too long: %q, %v", s, r.Whole())
	}
	r = Of([]byte{9})
	if r.UpTo(8) != 0 || r.Whole() {
		t.Error("all was read, but it is wrong")
	}
}

func TestBytesStay(t *testing.T) {
	room := slices.Concat(laid(300), text("tide"), laid(9))
	was := slices.Clone(room)
	r := Of(room[:len(room)-1])
	n, s := r.Number(), r.Text()
	if !r.Whole() || r.Number() != 0 || !slices.Equal(room, was) {
		t.Errorf("R3: %x, not %x", room, was)
	}
	clear(room)
	if n != 300 || s != "tide" {
		t.Errorf("R3: %d, %q", n, s)
	}
}
