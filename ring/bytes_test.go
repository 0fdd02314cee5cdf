package ring

import (
	"bytes"
	"math"
	"slices"
	"testing"

	"tidewrack/api"
)

// kept are rings of all forms that may be.
func kept() []api.Ring {
	full := api.Ring{Epoch: math.MaxUint64}
	for id := range 16 {
		full.Members = append(full.Members, of(id, 1+id%3, upFrom(math.MaxUint32-uint32(63+id), 64)...))
	}
	return []api.Ring{
		{}, {Epoch: 9}, {Epoch: math.MaxUint64}, {Epoch: 127}, {Epoch: 128},
		ringOf(1, of(0, 1, 0)), ringOf(300, of(15, 3, math.MaxUint32)), ringOf(7, of(4, 2, 127, 128, 16383, 16384, 1<<31)),
		ringOf(2, of(0, 2, 5, 6), of(1, 1, 5), of(15, 3, 0, 1)), ringOf(1<<63, of(2, 2, upFrom(0, 64)...)), full,
	}
}

func TestBytesWrittenOut(t *testing.T) {
	for _, x := range []struct {
		r    api.Ring
		want string
	}{
		{api.Ring{}, "\x00\x00"},
		{api.Ring{Epoch: math.MaxUint64}, "\xff\xff\xff\xff\xff\xff\xff\xff\xff\x01\x00"},
		{ringOf(300, of(3, 2, 7, 128), of(15, 1, math.MaxUint32)), "\xac\x02\x02\x03\x02\x02\x07\x80\x01\x0f\x01\x01\xff\xff\xff\xff\x0f"},
	} {
		if b, e := Encode(x.r); e != api.OK || string(b) != x.want {
			t.Errorf("P13.4: Encode(%v): %x, %d, not %x", x.r, b, e, x.want)
		}
		if r, e := Decode([]byte(x.want)); e != api.OK || told(r) != told(x.r) {
			t.Errorf("P13.4: Decode(%x): %v, %d, not %v", x.want, r, e, x.r)
		}
	}
}

// wantAsModel holds Decode against the model, and tells whether these are a ring's bytes.
func wantAsModel(t *testing.T, what string, b []byte) bool {
	t.Helper()
	want, ok := modelIn(b)
	got, e := Decode(b)
	if !ok {
		if e != api.ErrRingForm || told(got) != told(api.Ring{}) {
			t.Errorf("P13.4: %s: Decode(%x): %v, %d", what, b, got, e)
		}
		return false
	}
	if e != api.OK || told(got) != told(want) {
		t.Errorf("P13.4: %s: Decode(%x): %v, %d, not %v", what, b, got, e, want)
	}
	if again, e := Encode(got); e != api.OK || !bytes.Equal(again, b) {
		t.Errorf("P13.5: %s: Encode of Decode of %x: %x, %d", what, b, again, e)
	}
	return true
}

func TestThereAndBack(t *testing.T) {
	rings := kept()
	c := newChance(5)
	for range 3000 {
		rings = append(rings, c.ring())
	}
	for _, r := range rings {
		b, e := Encode(r)
		if e != api.OK || !bytes.Equal(b, modelBytes(r)) {
			t.Errorf("P13.4: Encode(%v): %x, %d", r, b, e)
		}
		if got, e := Decode(b); e != api.OK || told(got) != told(r) {
			t.Errorf("P13.5: Decode of Encode of %v: %v, %d", r, got, e)
		}
	}
}

// TestEndsTooSoonOrTooLate: no beginning of a ring's bytes is one's, nor is anything with more behind.
func TestEndsTooSoonOrTooLate(t *testing.T) {
	for _, r := range kept() {
		b, _ := Encode(r)
		for k := range b {
			if wantAsModel(t, "a beginning", b[:k:k]) {
				t.Errorf("P13.4: the first %d of %x are a ring's bytes", k, b)
			}
		}
		for _, more := range [][]byte{{0}, {1}, {0x80}, {0, 0}, b} {
			if wantAsModel(t, "more behind", slices.Concat(b, more)) {
				t.Errorf("P13.4: %x with %x behind are a ring's bytes", b, more)
			}
		}
	}
}

// TestChangedBytes: each byte changed to each other one, left out, and put twice.
func TestChangedBytes(t *testing.T) {
	some := 0
	for _, r := range kept() {
		b, _ := Encode(r)
		for i := range b {
			if len(b) > 200 && i%97 > 0 {
				continue
			}
			for x := range 256 {
				other := slices.Clone(b)
				other[i] = byte(x)
				if wantAsModel(t, "a byte changed", other) {
					some++
				}
				wantAsModel(t, "a byte more", slices.Insert(slices.Clone(b), i, byte(x)))
			}
			wantAsModel(t, "a byte less", slices.Delete(slices.Clone(b), i, i+1))
		}
	}
	if some < 1000 {
		t.Errorf("only %d changed bytes are a ring's", some)
	}
}

// TestShortBytes: all of six bytes at most, out of those that mean something.
func TestShortBytes(t *testing.T) {
	lists := [][]byte{{}}
	some := 0
	for i := 0; i < len(lists); i++ {
		if wantAsModel(t, "short bytes", lists[i]) {
			some++
		}
		for _, x := range []byte{0, 1, 2, 3, 4, 15, 16, 0x80, 0xff} {
			if len(lists[i]) < 6 {
				lists = append(lists, append(slices.Clone(lists[i]), x))
			}
		}
	}
	// Without members: an epoch of one byte is one of 7; in one of two to five bytes all but the last are 80 or ff, and the last is one of 6.
	want := 7 + 6*(2+4+8+16)
	// With a member there is room for one byte each: epochs, IDs, States and tokens.
	want += 7 * 6 * 3 * 7
	if some != want {
		t.Errorf("P13.4: %d of all short bytes are rings', not %d", some, want)
	}
}

func TestOtherForms(t *testing.T) {
	for _, x := range []struct{ what, b string }{
		{"no bytes", ""},
		{"an epoch alone", "\x01"},
		{"an epoch in two bytes", "\x80\x00\x00"},
		{"an epoch of 2^64", "\x80\x80\x80\x80\x80\x80\x80\x80\x80\x02\x00"},
		{"a number of members in two bytes", "\x01\x80\x00"},
		{"a member too few", "\x01\x02\x00\x02\x01\x05"},
		{"a member too many", "\x01\x01\x00\x02\x01\x05\x01\x02\x01\x05"},
		{"2^63 members", "\x01\x80\x80\x80\x80\x80\x80\x80\x80\x80\x01\x00\x02\x01\x05"},
		{"2^40 members", "\x01\x80\x80\x80\x80\x80\x20\x00\x02\x01\x05"},
		{"2^32 + 1 members", "\x01\x81\x80\x80\x80\x10\x00\x02\x01\x05"},
		{"an ID of 16", "\x01\x01\x10\x02\x01\x05"},
		{"an ID of 2^32", "\x01\x01\x80\x80\x80\x80\x10\x02\x01\x05"},
		{"an ID of 2^64 - 1", "\x01\x01\xff\xff\xff\xff\xff\xff\xff\xff\xff\x01\x02\x01\x05"},
		{"an ID in two bytes", "\x01\x01\x80\x00\x02\x01\x05"},
		{"a State of 0", "\x01\x01\x00\x00\x01\x05"},
		{"a State of 4", "\x01\x01\x00\x04\x01\x05"},
		{"a State of 2^32 + 2", "\x01\x01\x00\x82\x80\x80\x80\x10\x01\x05"},
		{"a State in two bytes", "\x01\x01\x00\x82\x00\x01\x05"},
		{"no tokens", "\x01\x01\x00\x02\x00"},
		{"a token too few", "\x01\x01\x00\x02\x02\x05"},
		{"a token too many", "\x01\x01\x00\x02\x01\x05\x06"},
		{"2^63 tokens", "\x01\x01\x00\x02\x80\x80\x80\x80\x80\x80\x80\x80\x80\x01\x05"},
		{"2^40 tokens", "\x01\x01\x00\x02\x80\x80\x80\x80\x80\x20\x05"},
		{"2^32 + 1 tokens", "\x01\x01\x00\x02\x81\x80\x80\x80\x10\x05"},
		{"a token of 2^32", "\x01\x01\x00\x02\x01\x80\x80\x80\x80\x10"},
		{"a token of 2^64 - 1", "\x01\x01\x00\x02\x01\xff\xff\xff\xff\xff\xff\xff\xff\xff\x01"},
		{"a token in two bytes", "\x01\x01\x00\x02\x01\x85\x00"},
		{"like tokens", "\x01\x01\x00\x02\x02\x05\x05"},
		{"falling tokens", "\x01\x01\x00\x02\x02\x05\x04"},
		{"like IDs", "\x01\x02\x01\x02\x01\x05\x01\x02\x01\x05"},
		{"falling IDs", "\x01\x02\x01\x02\x01\x05\x00\x02\x01\x05"},
	} {
		if wantAsModel(t, x.what, []byte(x.b)) {
			t.Errorf("P13.4: %s: a ring's bytes", x.what)
		}
	}
}

// TestManyOfEach: as many tokens and members as there may be, and one more.
func TestManyOfEach(t *testing.T) {
	for n := range 70 {
		r := ringOf(1, of(3, 2, upFrom(0, n)...))
		if wantAsModel(t, "tokens", modelBytes(r)) != (n >= 1 && n <= 64) {
			t.Errorf("P13.4: %d tokens", n)
		}
	}
	var r api.Ring
	for n := range 20 {
		if wantAsModel(t, "members", modelBytes(r)) != (n <= 16) {
			t.Errorf("P13.4: %d members", n)
		}
		r.Members = append(r.Members, of(n, 2, 5))
	}
}
