package ha

import (
	"bytes"
	"math"
	"slices"
	"strings"
	"testing"

	"tidewrack/api"
)

// leaders are of all forms that may be.
func leaders() []api.Leader {
	var out []api.Leader
	for _, replica := range []string{"", "a", "replica-1", "\x00", "\x80\x01", "\xff\xfe", "é", strings.Repeat("r", 127), strings.Repeat("r", 128), strings.Repeat("v", api.MaxValue), strings.Repeat("w", 400)} {
		for _, stamp := range []int64{0, 1, -1, 63, 64, -64, -65, api.MaxTime, -api.MaxTime, math.MaxInt64, math.MinInt64} {
			out = append(out, api.Leader{Replica: replica, Stamp: stamp})
		}
	}
	return out
}

func TestBytesWrittenOut(t *testing.T) {
	for _, x := range []struct {
		l    api.Leader
		want string
	}{
		{api.Leader{}, "\x00\x00"},
		{api.Leader{Replica: "ab", Stamp: -1}, "\x02ab\x01"},
		{api.Leader{Replica: "r", Stamp: 150}, "\x01r\xac\x02"},
		{api.Leader{Stamp: math.MinInt64}, "\x00\xff\xff\xff\xff\xff\xff\xff\xff\xff\x01"},
		{api.Leader{Replica: strings.Repeat("x", 300), Stamp: 1}, "\xac\x02" + strings.Repeat("x", 300) + "\x02"},
	} {
		if b := Encode(x.l); string(b) != x.want {
			t.Errorf("P16.3: Encode(%.50v): %x, not %x", x.l, b, x.want)
		}
		if l, e := Decode([]byte(x.want)); l != x.l || e != api.OK {
			t.Errorf("P16.3: Decode(%x): %v, %d, not %v", x.want, l, e, x.l)
		}
	}
}

func TestThereAndBack(t *testing.T) {
	for _, l := range leaders() {
		b := Encode(l)
		if !bytes.Equal(b, bytesOf(l)) {
			t.Errorf("P16.3: Encode(%.50v): %.50x", l, b)
		}
		if got, e := Decode(b); got != l || e != api.OK {
			t.Errorf("P16.4: Decode of Encode of %.50v: %.50v, %d", l, got, e)
		}
	}
}

// decodeIs holds Decode against the model, and tells whether these are a Leader's bytes.
func decodeIs(t *testing.T, what string, b []byte) bool {
	t.Helper()
	want, ok := leaderOf(b)
	got, e := Decode(b)
	if !ok {
		if e != api.ErrHaOther || got != (api.Leader{}) {
			t.Errorf("P16.3: %s: Decode(%.50x): %.50v, %d", what, b, got, e)
		}
		return false
	}
	if e != api.OK || got != want {
		t.Errorf("P16.3: %s: Decode(%.50x): %.50v, %d, not %.50v", what, b, got, e, want)
	}
	if again := Encode(got); !bytes.Equal(again, b) {
		t.Errorf("P16.3: %s: Encode of Decode of %.50x: %.50x", what, b, again)
	}
	return true
}

// TestEndsTooSoonOrTooLate: no beginning of a Leader's bytes is one's, nor is anything with more behind.
func TestEndsTooSoonOrTooLate(t *testing.T) {
	for _, l := range leaders() {
		b := Encode(l)
		for k := range min(len(b), 400) {
			if decodeIs(t, "a beginning", b[:k:k]) {
				t.Errorf("P16.3: the first %d of %.50x are a Leader's bytes", k, b)
			}
		}
		for _, more := range [][]byte{{0}, {1}, {0x80}, {0, 0}, b} {
			if decodeIs(t, "more behind", slices.Concat(b, more)) {
				t.Errorf("P16.3: %.50x with %.50x behind are a Leader's bytes", b, more)
			}
		}
	}
}

// TestChangedBytes: each byte changed to each other one, left out, and put twice.
func TestChangedBytes(t *testing.T) {
	some := 0
	for _, l := range leaders() {
		b := Encode(l)
		for i := range b {
			if len(b) > 40 && i > 3 && i < len(b)-11 {
				continue
			}
			for x := range 256 {
				other := slices.Clone(b)
				other[i] = byte(x)
				if decodeIs(t, "a byte changed", other) {
					some++
				}
				if len(b) < 40 {
					decodeIs(t, "a byte more", slices.Insert(slices.Clone(b), i, byte(x)))
				}
			}
			decodeIs(t, "a byte less", slices.Delete(slices.Clone(b), i, i+1))
		}
	}
	if some < 1000 {
		t.Errorf("only %d changed bytes are a Leader's", some)
	}
}

// TestShortBytes: all of five bytes at most, out of those that mean something.
func TestShortBytes(t *testing.T) {
	lists := [][]byte{{}}
	some := 0
	for i := 0; i < len(lists); i++ {
		if decodeIs(t, "short bytes", lists[i]) {
			some++
		}
		for _, x := range []byte{0, 1, 2, 3, 4, 0x7f, 0x80, 0xff} {
			if len(lists[i]) < 5 {
				lists = append(lists, append(slices.Clone(lists[i]), x))
			}
		}
	}
	// A Stamp of one byte is one of 6; in one of k bytes all but the last are 80 or ff, and the last is one of 5. Ahead of it stands a length, and as many of 8 bytes.
	stamps := []int{0, 6, 2 * 5, 4 * 5, 8 * 5}
	want, texts := 0, 1
	for length := 0; length <= 3; length, texts = length+1, texts*8 {
		for k := 1; k <= 4-length; k++ {
			want += texts * stamps[k]
		}
	}
	if some != want {
		t.Errorf("P16.3: %d of all short bytes are Leaders', not %d", some, want)
	}
}

func TestOtherForms(t *testing.T) {
	for _, x := range []struct{ what, b string }{
		{"no bytes", ""},
		{"a Replica alone", "\x01r"},
		{"an empty Replica alone", "\x00"},
		{"a length alone", "\x01"},
		{"a length in two bytes", "\x81\x00r\x02"},
		{"a length of no end", "\x81"},
		{"a length too great", "\x03ab\x01"},
		{"a length of 2^32 + 1", "\x81\x80\x80\x80\x10r\x02"},
		{"a length of 2^63", "\x80\x80\x80\x80\x80\x80\x80\x80\x80\x01r\x02"},
		{"a length of 2^64 - 1", "\xff\xff\xff\xff\xff\xff\xff\xff\xff\x01r\x02"},
		{"a length of 2^64", "\x80\x80\x80\x80\x80\x80\x80\x80\x80\x02r\x02"},
		{"a Stamp in two bytes", "\x01r\x82\x00"},
		{"a Stamp of no end", "\x01r\x82"},
		{"a Stamp of 2^64", "\x01r\x80\x80\x80\x80\x80\x80\x80\x80\x80\x02"},
		{"a Stamp of eleven bytes", "\x01r\x80\x80\x80\x80\x80\x80\x80\x80\x80\x80\x01"},
		{"two Stamps", "\x01r\x02\x02"},
	} {
		if decodeIs(t, x.what, []byte(x.b)) {
			t.Errorf("P16.3: %s: a Leader's bytes", x.what)
		}
	}
}

func TestKey(t *testing.T) {
	texts := []string{"", "t", "tide-1", "a/b", "/", "ha", "\x00", "\xff", "é", strings.Repeat("t", 32), strings.Repeat("v", 127), strings.Repeat("v", 128), strings.Repeat("w", 400)}
	whose := map[string]string{}
	for _, tenant := range texts {
		for _, cluster := range texts {
			k := Key(tenant, cluster)
			if want := keyOf(tenant, cluster); k != want {
				t.Errorf("P16.3: Key(%.50q, %.50q): %.99q, not %.99q", tenant, cluster, k, want)
			}
			if other, twice := whose[k]; twice {
				t.Errorf("P16.3: %.99q is the key of %.50q, too", k, other)
			}
			whose[k] = tenant + " " + cluster
		}
	}
	for cluster, want := range map[string]string{"": "ha/t/638144451", "c": "ha/t/2695253161"} {
		if k := Key("t", cluster); k != want {
			t.Errorf("P16.3: Key(t, %q): %q, not %q", cluster, k, want)
		}
	}
}

// TestKeyFits: the key of a tenant that may be has few enough bytes for a register, whatever its cluster is called.
func TestKeyFits(t *testing.T) {
	tenant := strings.Repeat("t", api.MaxTenant)
	for n := range 300 {
		if k := Key(tenant, strings.Repeat("c", n)); len(k) > 64 {
			t.Errorf("P16.3: %q has %d bytes", k, len(k))
		}
	}
}
