package label

import (
	"bytes"
	"encoding/binary"
	"hash/fnv"
	"math"
	"slices"
	"strings"
	"testing"

	"tidewrack/api"
)

// asBytes is a list's bytes by another hand.
func asBytes(ls []api.Label) []byte {
	out := binary.AppendUvarint(nil, uint64(len(ls)))
	for _, l := range ls {
		for _, s := range []string{l.Name, l.Value} {
			out = append(binary.AppendUvarint(out, uint64(len(s))), s...)
		}
	}
	return out
}

// asText is a list's text by another hand.
func asText(ls []api.Label) string {
	var all []string
	for _, l := range ls {
		v := strings.ReplaceAll(l.Value, `\`, `\\`)
		v = strings.ReplaceAll(v, `"`, `\"`)
		v = strings.ReplaceAll(v, "\n", `\n`)
		all = append(all, l.Name+`="`+v+`"`)
	}
	return "{" + strings.Join(all, ",") + "}"
}

// widest has MaxLabels labels, each as long as it may be, of bytes that are escaped.
func widest() []api.Label {
	var out []api.Label
	for i := range api.MaxLabels {
		out = append(out, api.Label{
			Name:  strings.Repeat("n", api.MaxName-1) + string(rune('a'+i)),
			Value: strings.Repeat("\\\"\n€\x00", 36) + "\U0001f30a",
		})
	}
	return out
}

// allowed has sets that may be, no two alike.
func allowed() [][]api.Label {
	out := [][]api.Label{nil, widest(), set("a", "x", "b", "y"), set("a", "x", "b", "y", "c", "z")}
	for n := range api.MaxLabels {
		out = append(out, rising(n+1))
	}
	for _, v := range []string{"x", "xx", `\`, `\\`, `"`, `\"`, "\n", `\n`, `\\n`, "n", `x",b="y`, `x\",b=\"y`, "{", "}", "=", ",", "é", "\x00", "\x7f", "\u2028", strings.Repeat("v", 127), strings.Repeat("v", 128), strings.Repeat("v", 256)} {
		out = append(out, set("a", v), set("b", v), set("A", "1", "a", v))
	}
	for _, n := range []int{2, 63, 64} {
		out = append(out, set(strings.Repeat("_", n), "x"))
	}
	return out
}

// others has lists that may not be.
func others() [][]api.Label {
	return [][]api.Label{
		make([]api.Label, 1), make([]api.Label, 3), set("", "x"), set("a", ""), set("b", "x", "a", "y"), set("a", "x", "a", "x"), set("a", "x", "a", "y"),
		set("\xff", "\xfe\n\"\\"), set("a=", "\"\n"), set(`n"`, "x"), rising(17), rising(127), rising(128), rising(20000),
		set(strings.Repeat("N", 200), strings.Repeat("\n", 70000)),
	}
}

func TestEncode(t *testing.T) {
	for _, ls := range append(allowed(), others()...) {
		if got, want := Encode(ls), asBytes(ls); !bytes.Equal(got, want) {
			t.Errorf("P3.3: Encode(%.99q): %.99x, not %.99x", ls, got, want)
		}
	}
	if got := Encode(set("a", "x", "bc", "é")); string(got) != "\x02\x01a\x01x\x02bc\x02\xc3\xa9" {
		t.Errorf("P3.3: Encode: %x", got)
	}
	if got := Encode([]api.Label{}); !bytes.Equal(got, []byte{0}) {
		t.Errorf("P3.3: Encode(none): %x", got)
	}
}

func TestHash(t *testing.T) {
	for _, ls := range append(allowed(), others()...) {
		h := fnv.New32a()
		h.Write(asBytes(ls))
		if Hash(ls) != h.Sum32() {
			t.Errorf("P3.3: Hash(%.99q): %d, not %d", ls, Hash(ls), h.Sum32())
		}
	}
	if Hash(nil) != 84696351 || Hash([]api.Label{}) != 84696351 {
		t.Errorf("P3.3: Hash(none): %d", Hash(nil))
	}
}

func TestText(t *testing.T) {
	for _, ls := range append(allowed(), others()...) {
		if got, want := Text(ls), asText(ls); got != want {
			t.Errorf("P3.3: Text(%.99q): %.99s, not %.99s", ls, got, want)
		}
	}
	for _, x := range []struct {
		ls   []api.Label
		want string
	}{
		{nil, "{}"}, {set("a", `x"`), `{a="x\""}`}, {set("a", "\n"), `{a="\n"}`}, {set("a", `\n`), `{a="\\n"}`},
		{set("a", "\t\r\x00é"), "{a=\"\t\r\x00é\"}"}, {set("b", "", "a", "x"), `{b="",a="x"}`}, {set("a\n\"\\", "x"), "{a\n\"\\=\"x\"}"},
	} {
		if got := Text(x.ls); got != x.want {
			t.Errorf("P3.3: Text(%q): %s, not %s", x.ls, got, x.want)
		}
	}
}

func wantDecode(t *testing.T, b []byte, at int, want api.Errno) {
	t.Helper()
	if ls, to, e := Decode(b, at); len(ls) != 0 || to != 0 || e != want {
		t.Errorf("P3.3: Decode(%.60x, %d): %q, %d, %d, not %d", b, at, ls, to, e, want)
	}
}

// TestThereAndBack: a set is read wherever it stands, and the place behind it is told.
func TestThereAndBack(t *testing.T) {
	for _, ls := range allowed() {
		for _, ahead := range [][]byte{nil, {0}, {0x80, 0xff, 17}, make([]byte, 300)} {
			for _, behind := range [][]byte{nil, {0}, {0x80}, {0xff, 0xff}} {
				b := slices.Concat(ahead, Encode(ls), behind)
				got, to, e := Decode(b, len(ahead))
				if !slices.Equal(got, ls) || to != len(b)-len(behind) || e != api.OK {
					t.Errorf("P3.5: Decode of %.60q behind %d bytes: %.60q, %d, %d", ls, len(ahead), got, to, e)
				}
			}
		}
	}
	var all []byte
	for _, ls := range allowed() {
		all = append(all, Encode(ls)...)
	}
	at := 0
	for _, want := range allowed() {
		var ls []api.Label
		var e api.Errno
		if ls, at, e = Decode(all, at); !slices.Equal(ls, want) || e != api.OK {
			t.Fatalf("P3.5: one behind the other: %.60q, %d, %d", ls, at, e)
		}
	}
	if at != len(all) {
		t.Errorf("P3.5: %d, not %d", at, len(all))
	}
}

func TestUnlikeSets(t *testing.T) {
	codes, texts := map[string]int{}, map[string]int{}
	for i, ls := range allowed() {
		if k, ok := codes[string(Encode(ls))]; ok {
			t.Errorf("P3.5: sets %d and %d have one code", i, k)
		}
		if k, ok := texts[Text(ls)]; ok {
			t.Errorf("P3.5: sets %d and %d have one text", i, k)
		}
		codes[string(Encode(ls))], texts[Text(ls)] = i, i
	}
}

func TestDecodeWrongPlaces(t *testing.T) {
	for _, b := range [][]byte{nil, {0}, Encode(set("a", "x"))} {
		for _, at := range []int{math.MinInt, -2, -1, len(b), len(b) + 1, math.MaxInt} {
			wantDecode(t, b, at, api.ErrCodecEnd)
		}
	}
}

func TestDecodeEarlyEnds(t *testing.T) {
	for _, ls := range allowed() {
		b := Encode(ls)
		for k := range b {
			wantDecode(t, b[:k], 0, api.ErrCodecEnd) // the rest stands behind the end
			wantDecode(t, bytes.Clone(b[:k]), 0, api.ErrCodecEnd)
		}
	}
}

func TestDecodeNumberOfLabels(t *testing.T) {
	wantDecode(t, []byte{0x80, 0}, 0, api.ErrCodecForm)
	wantDecode(t, []byte{0x81, 0}, 0, api.ErrCodecForm)
	wantDecode(t, append(bytes.Repeat([]byte{0xff}, 9), 2), 0, api.ErrCodecForm)
	for _, n := range []uint64{api.MaxLabels + 1, 127, 128, 1 << 32, 1<<32 + 1, 1 << 63, math.MaxUint64} {
		wantDecode(t, binary.AppendUvarint(nil, n), 0, api.ErrLabelForm)
		wantDecode(t, append(binary.AppendUvarint(nil, n), make([]byte, 400)...), 0, api.ErrLabelForm)
		wantDecode(t, append(binary.AppendUvarint(nil, n), 0x80, 0), 0, api.ErrLabelForm)
	}
	wantDecode(t, Encode(rising(17)), 0, api.ErrLabelForm)
	if ls, _, e := Decode(Encode(rising(16)), 0); len(ls) != 16 || e != api.OK {
		t.Errorf("P3.3: 16 labels: %d, %d", len(ls), e)
	}
}

// TestDecodeTellsCheck: what Check refuses is refused with its error, but behind codec's of whatever label.
func TestDecodeTellsCheck(t *testing.T) {
	for _, ls := range others() {
		if len(ls) > api.MaxLabels {
			continue
		}
		b := Encode(ls)
		if Check(ls) == api.OK {
			t.Errorf("P3.1: %q", ls)
		}
		wantDecode(t, b, 0, Check(ls))
		wantDecode(t, b[:len(b)-1], 0, api.ErrCodecEnd)
	}
	wantDecode(t, []byte{1, 0, 0}, 0, api.ErrLabelName)
	wantDecode(t, []byte{1, 1, 'a', 0}, 0, api.ErrLabelText)
	wantDecode(t, []byte{2, 0, 0, 0x80, 0}, 0, api.ErrCodecForm)
	wantDecode(t, []byte{2, 0, 0, 1, 'a', 0x80, 0}, 0, api.ErrCodecForm)
	wantDecode(t, []byte{1, 1, '-', 5, 'x'}, 0, api.ErrCodecEnd)
	wantDecode(t, []byte{1, 0xff, 0xff, 0xff, 0xff, 0xff, 0xff, 0xff, 0xff, 0xff, 1, 'x'}, 0, api.ErrCodecEnd)
}

// TestDecodeEveryShortString: what is read, written anew, is the same bytes, and may be.
func TestDecodeEveryShortString(t *testing.T) {
	read := 0
	var grow func(b []byte)
	grow = func(b []byte) {
		if ls, to, e := Decode(b, 0); e == api.OK {
			read++
			if !bytes.Equal(Encode(ls), b[:to]) || Check(ls) != api.OK {
				t.Errorf("P3.5: Decode(%x): %q, %d", b, ls, to)
			}
		} else if len(ls) != 0 || to != 0 {
			t.Errorf("P3.3: Decode(%x): %q, %d, %d", b, ls, to, e)
		}
		if len(b) == 7 {
			return
		}
		for _, x := range []byte{0, 1, 2, 'a', 'b', 0x80} {
			grow(append(b, x))
		}
	}
	grow(nil)
	if read == 0 {
		t.Error("P3.5: nothing was read")
	}
}
