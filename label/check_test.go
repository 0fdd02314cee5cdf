package label

import (
	"fmt"
	"slices"
	"strings"
	"testing"
	"unicode/utf8"

	"tidewrack/api"
)

// set makes labels of names and values in turn.
func set(texts ...string) []api.Label {
	var out []api.Label
	for i := 0; i+1 < len(texts); i += 2 {
		out = append(out, api.Label{Name: texts[i], Value: texts[i+1]})
	}
	return out
}

// rising is a set of n labels that may be, if n may.
func rising(n int) []api.Label {
	var out []api.Label
	for i := range n {
		out = append(out, api.Label{Name: fmt.Sprintf("n%03d", i), Value: fmt.Sprint("v", i)})
	}
	return out
}

func wantCheck(t *testing.T, ls []api.Label, want api.Errno) {
	t.Helper()
	if e := Check(ls); e != want {
		t.Errorf("P3.1: Check(%q): %d, not %d", ls, e, want)
	}
}

func TestCheckNumberOfLabels(t *testing.T) {
	wantCheck(t, nil, api.OK)
	wantCheck(t, []api.Label{}, api.OK)
	for n := range api.MaxLabels + 1 {
		wantCheck(t, rising(n), api.OK)
	}
	for _, n := range []int{api.MaxLabels + 1, api.MaxLabels + 2, 500} {
		wantCheck(t, rising(n), api.ErrLabelMany)
	}
	// Too many goes ahead of whatever else is wrong.
	wantCheck(t, make([]api.Label, api.MaxLabels+1), api.ErrLabelMany)
	wantCheck(t, make([]api.Label, api.MaxLabels), api.ErrLabelName)
}

func TestCheckNames(t *testing.T) {
	const letters = "ABCDEFGHIJKLMNOPQRSTUVWXYZabcdefghijklmnopqrstuvwxyz_"
	const digits = "0123456789"
	for x := range 256 {
		s := string([]byte{byte(x)})
		first, later := api.ErrLabelName, api.ErrLabelName
		if strings.Contains(letters, s) {
			first, later = api.OK, api.OK
		}
		if strings.Contains(digits, s) {
			later = api.OK
		}
		wantCheck(t, set(s, "x"), first)
		wantCheck(t, set(s+"a", "x"), first)
		wantCheck(t, set("a"+s, "x"), later)
		wantCheck(t, set("a"+s+"b", "x"), later)
		wantCheck(t, set(strings.Repeat("a", api.MaxName-1)+s, "x"), later)
	}
	wantCheck(t, set("", "x"), api.ErrLabelName)
	wantCheck(t, set("é", "x"), api.ErrLabelName)
	wantCheck(t, set(strings.Repeat("z", api.MaxName), "x"), api.OK)
	wantCheck(t, set(strings.Repeat("z", api.MaxName+1), "x"), api.ErrLabelName)
	wantCheck(t, set(strings.Repeat("z", 100000), "x"), api.ErrLabelName)
}

func TestCheckLengthOfValues(t *testing.T) {
	wantCheck(t, set("a", ""), api.ErrLabelText)
	for _, r := range []string{"v", "\x00", "é", "€", "\U0010ffff", "\ufeff"} {
		n := api.MaxValue / len(r) // bytes count, not runes
		rest := strings.Repeat("w", api.MaxValue-n*len(r))
		wantCheck(t, set("a", r), api.OK)
		wantCheck(t, set("a", strings.Repeat(r, n)+rest), api.OK)
		wantCheck(t, set("a", strings.Repeat(r, n)+rest+"w"), api.ErrLabelText)
		wantCheck(t, set("a", strings.Repeat(r, n)+rest+r), api.ErrLabelText)
	}
	wantCheck(t, set("a", strings.Repeat("v", 1<<20)), api.ErrLabelText)
}

// holdUTF8 holds what Check says of a Value against the library.
func holdUTF8(t *testing.T, s string) {
	want := api.ErrLabelText
	if s != "" && utf8.ValidString(s) {
		want = api.OK
	}
	if e := Check([]api.Label{{Name: "a", Value: s}}); e != want {
		t.Errorf("P3.1: the Value %x: %d, not %d", s, e, want)
	}
}

func TestCheckEveryRune(t *testing.T) {
	for r := rune(0); r <= utf8.MaxRune; r++ {
		if utf8.ValidRune(r) {
			wantCheck(t, set("a", string(r)), api.OK)
		}
	}
}

func TestCheckEveryStringOfUpToThreeBytes(t *testing.T) {
	for x := range 256 {
		holdUTF8(t, string([]byte{byte(x)}))
		for y := range 256 {
			holdUTF8(t, string([]byte{byte(x), byte(y)}))
		}
	}
	for v := range 1 << 24 {
		if v>>16 >= 0x7f { // behind lesser bytes stand strings of two
			holdUTF8(t, string([]byte{byte(v >> 16), byte(v >> 8), byte(v)}))
		}
	}
}

// TestCheckLongerStrings: four and five bytes, of those at which what may follow turns.
func TestCheckLongerStrings(t *testing.T) {
	turns := []byte{0, 0x7f, 0x80, 0x8f, 0x90, 0x9f, 0xa0, 0xbf, 0xc0, 0xc1, 0xc2, 0xdf, 0xe0, 0xe1, 0xec, 0xed, 0xee, 0xef, 0xf0, 0xf1, 0xf3, 0xf4, 0xf5, 0xf8, 0xff}
	var grow func(b []byte, n int)
	grow = func(b []byte, n int) {
		if n == 0 {
			holdUTF8(t, string(b))
			return
		}
		for _, x := range turns {
			grow(append(b, x), n-1)
		}
	}
	grow(nil, 4)
	for _, first := range []byte{0xe0, 0xed, 0xf0, 0xf1, 0xf4, 0xf5} {
		grow([]byte{first}, 3)
		grow([]byte{first, 0x80}, 3)
		grow([]byte{first, 0x90, 0x80}, 3)
	}
}

func TestCheckRunesBetweenOthers(t *testing.T) {
	runes := []string{"a", "é", "€", "\U0001f30a", "\ufffd"}
	wrong := []string{"\x80", "\xbf", "\xc3", "\xc0\x80", "\xe2\x82", "\xed\xa0\x80", "\xf0\x9f\x8c", "\xf4\x90\x80\x80", "\xff"}
	for _, ahead := range runes {
		for _, behind := range runes {
			for _, s := range append(slices.Clone(runes), wrong...) {
				holdUTF8(t, ahead+s+behind)
				holdUTF8(t, ahead+s)
				holdUTF8(t, s+behind)
			}
		}
	}
	// The last byte of the longest Value is looked at too.
	wantCheck(t, set("a", strings.Repeat("v", api.MaxValue-1)+"\x80"), api.ErrLabelText)
	wantCheck(t, set("a", strings.Repeat("v", api.MaxValue-1)+"\xc3"), api.ErrLabelText)
	// A Value that is cut at its bound is too long, whether or not a rune is cut.
	wantCheck(t, set("a", strings.Repeat("v", api.MaxValue-1)+"é"), api.ErrLabelText)
}

func TestCheckOrderOfNames(t *testing.T) {
	names := []string{"A", "AA", "B", "Z", "_", "__name__", "_a", "a", "a0", "aA", "a_", "aa", "b", "z"}
	for i, a := range names {
		for k, b := range names {
			want := api.ErrLabelSort
			if i < k {
				want = api.OK
			}
			wantCheck(t, set(a, "x", b, "x"), want)
			wantCheck(t, set("a", "x", "b", "x", "c"+a, "y", "c"+b, "x"), want)
		}
	}
	// A label is held against the one ahead of it.
	wantCheck(t, set("a", "x", "c", "x", "b", "x"), api.ErrLabelSort)
	wantCheck(t, set("a", "x", "b", "x", "a", "x"), api.ErrLabelSort)
}

// TestCheckFirstFault: the first label that is wrong is told, and of that Name, Value, place.
func TestCheckFirstFault(t *testing.T) {
	name, text := api.Label{Name: "z-", Value: "x"}, api.Label{Name: "z", Value: ""}
	low := api.Label{Name: "A", Value: "x"}
	faults := []struct {
		l api.Label
		e api.Errno
	}{
		{name, api.ErrLabelName}, {text, api.ErrLabelText}, {low, api.ErrLabelSort},
		{api.Label{Name: "A-", Value: ""}, api.ErrLabelName}, {api.Label{Name: "", Value: "\xff"}, api.ErrLabelName},
		{api.Label{Name: "A", Value: "\xff"}, api.ErrLabelText}, {api.Label{Name: "m", Value: ""}, api.ErrLabelText}, {api.Label{Name: "m", Value: "x"}, api.ErrLabelSort},
	}
	for _, x := range faults {
		for _, y := range faults {
			wantCheck(t, []api.Label{{Name: "m", Value: "x"}, x.l, y.l}, x.e)
			wantCheck(t, []api.Label{{Name: "l", Value: "x"}, {Name: "m", Value: "x"}, x.l, {Name: "zz", Value: "x"}, y.l}, x.e)
		}
	}
	for n := 1; n < api.MaxLabels; n++ {
		for _, x := range faults[:3] {
			wantCheck(t, append(rising(n), x.l), x.e)
		}
	}
}

func TestCheckExamples(t *testing.T) {
	wantCheck(t, set("a", "x", "a", "y"), api.ErrLabelSort)
	wantCheck(t, set("1", "x"), api.ErrLabelName)
	wantCheck(t, set("a", ""), api.ErrLabelText)
}
