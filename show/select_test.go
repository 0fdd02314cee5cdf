package show

import (
	"slices"
	"strings"
	"testing"

	"tidewrack/api"
)

func matcher(kind int, name, value string) api.Matcher {
	return api.Matcher{Kind: kind, Name: name, Value: value}
}

// selectIs wants a select of those matchers to be written so.
func selectIs(t *testing.T, want string, ms ...api.Matcher) {
	t.Helper()
	if s, e := showIs(t, []api.Node{vector(ms...)}); s != want || e != api.OK {
		t.Errorf("P20.1: %+v: %q, %d; want %q", ms, s, e, want)
	}
}

// TestNames: a word that is not kept is a name, where a MatchEq of __name__ is the first matcher; nothing else is one.
func TestNames(t *testing.T) {
	a := matcher(api.MatchNe, "a", "b")
	ask := func(value string) {
		for kind := api.MatchEq; kind <= api.MatchNot; kind++ {
			for _, name := range []string{"__name__", "_"} {
				m := matcher(kind, name, value)
				for _, l := range [][]api.Matcher{{m}, {m, a}, {a, m}, {m, m}} {
					showIs(t, []api.Node{vector(l...)})
				}
				showIs(t, []api.Node{vector(m), vector(a, m), bin(api.OpOr), neg()})
			}
		}
	}
	for c := range 256 {
		b := string([]byte{byte(c)})
		for _, s := range []string{b, b + "a", "a" + b, "a" + b + "a", "or" + b, b + "1"} {
			ask(s)
		}
	}
	for _, w := range keptWords {
		for _, s := range []string{w, w + "_", "_" + w, w + ":", strings.ToUpper(w), " " + w, w + "(x)", w + w} {
			ask(s)
		}
	}
	for _, s := range []string{"", "x:y", ":", "::1", "_", "__name__", "5", "5m", "x5m", "1x", "(x)", "x{}", "x[5m]", "x offset 1h", "-x", "x\n", " x", "x ", "é", "x\x80", `x{a="b"}`, `{__name__="x"}`, `"x"`, "x + x", "sum by", "offset_", "bools", "unlessx"} {
		ask(s)
	}
	for _, n := range []int{63, 64, 65, 128, 255, 256} {
		word := strings.Repeat("w", n)
		ask(word)
		ask(strings.Repeat(":", n))
		ask(strings.Repeat("-", n))
		ask(strings.Repeat("(", n))
		selectIs(t, word, matcher(api.MatchEq, "__name__", word))
	}
}

func TestNamesAsWritten(t *testing.T) {
	selectIs(t, "{}")
	selectIs(t, "x", matcher(1, "__name__", "x"))
	selectIs(t, `{__name__="x y"}`, matcher(1, "__name__", "x y"))
	selectIs(t, `{__name__="sum"}`, matcher(1, "__name__", "sum"))
	selectIs(t, `{__name__="5m"}`, matcher(1, "__name__", "5m"))
	selectIs(t, `{__name__!="x"}`, matcher(2, "__name__", "x"))
	selectIs(t, `{__name__=~"x"}`, matcher(3, "__name__", "x"))
	selectIs(t, `{__name__!~"x"}`, matcher(4, "__name__", "x"))
	selectIs(t, `{a="x"}`, matcher(1, "a", "x"))
	selectIs(t, `x{__name__="x"}`, matcher(1, "__name__", "x"), matcher(1, "__name__", "x"))
	selectIs(t, `{a="x", __name__="x"}`, matcher(1, "a", "x"), matcher(1, "__name__", "x"))
	selectIs(t, `x:1{a="", b!="*|", or=~"y", __name__!~"z"}`, matcher(1, "__name__", "x:1"), matcher(1, "a", ""), matcher(2, "b", "*|"), matcher(3, "or", "y"), matcher(4, "__name__", "z"))
}

// TestManyMatchers: up to MaxMatchers, the name one of them.
func TestManyMatchers(t *testing.T) {
	name := matcher(api.MatchEq, "__name__", "x")
	other := matcher(api.MatchLike, "a", "b")
	for n := range 12 {
		want := api.OK
		if n > 8 {
			want = api.ErrShowTree
		}
		for _, first := range []api.Matcher{name, other} {
			ms := slices.Repeat([]api.Matcher{other}, n)
			if n > 0 {
				ms[0] = first
			}
			if _, e := showIs(t, []api.Node{vector(ms...)}); e != want {
				t.Errorf("P20.1: %d matchers: %d", n, e)
			}
		}
	}
}

// TestValues: each byte in a Value, in each place of it, of its matcher and of its node; those below 32 but 10 are refused.
func TestValues(t *testing.T) {
	good := matcher(api.MatchEq, "a", "b")
	for c := range 256 {
		want := api.OK
		if c < 32 && c != 10 {
			want = api.ErrShowTree
		}
		b := string([]byte{byte(c)})
		for kind := api.MatchEq; kind <= api.MatchNot; kind++ {
			for _, value := range []string{b, b + b, b + "x", "x" + b, "x" + b + "x", b + `"`, `\` + b, strings.Repeat("x", 255) + b} {
				for _, name := range []string{"a", "__name__"} {
					m := matcher(kind, name, value)
					for _, l := range [][]api.Node{
						{vector(m)},
						{vector(good, good, m)},
						{vector(m, good)},
						{{Kind: api.NodeRange, Match: []api.Matcher{m}, Width: 1}},
						{num("1"), vector(m), bin(api.OpAdd)},
						{vector(m), num("1"), bin(api.OpAdd), neg()},
					} {
						if _, e := showIs(t, l); e != want {
							t.Errorf("P20.1: %s: %d; want %d", told(l), e, want)
						}
					}
				}
			}
		}
	}
	for _, value := range []string{"é", "\xff\xfe", "\x7f", `\n`, "\\\n", `\\`, `""`, "\n\n", "\x85", "\u2028", "x\", b=\"y"} {
		showIs(t, []api.Node{vector(matcher(api.MatchNe, "a", value))})
	}
}

// spanIs wants a span's text, in brackets and behind offset.
func spanIs(t *testing.T, seconds int64, want string) {
	t.Helper()
	ranged := api.Node{Kind: api.NodeRange, Width: seconds, Back: seconds}
	if s, e := showIs(t, []api.Node{ranged}); s != "{}["+want+"] offset "+want || e != api.OK {
		t.Errorf("P20.1: %d seconds: %q, %d; want %q", seconds, s, e, want)
	}
}

func TestSpans(t *testing.T) {
	for seconds, want := range map[int64]string{
		1: "1s", 59: "59s", 60: "1m", 61: "61s", 90: "90s", 120: "2m", 3599: "3599s", 3600: "1h", 3601: "3601s", 3660: "61m", 5400: "90m", 7200: "2h",
		86399: "86399s", 86400: "1d", 86401: "86401s", 86460: "1441m", 90000: "25h", 172800: "2d", 604800: "7d", 31536000: "365d",
		1<<31 - 1: "2147483647s", 2147483640: "35791394m", 2147482800: "596523h", 2147472000: "24855d",
	} {
		spanIs(t, seconds, want)
	}
	for _, unit := range []int64{1, 60, 3600, 86400} {
		for n := int64(1); n <= 200; n++ {
			for _, seconds := range []int64{n * unit, n*unit + 1, n*unit + 60, n*unit + 3600, max(n*unit-1, 1)} {
				spanIs(t, seconds, spanOf(seconds))
			}
		}
	}
	for _, x := range []struct {
		n    api.Node
		want string
	}{
		{api.Node{Kind: api.NodeVector, Match: named("x").Match, Back: 60}, "x offset 1m"},
		{api.Node{Kind: api.NodeRange, Match: named("x").Match, Width: 60}, "x[1m]"},
		{api.Node{Kind: api.NodeRange, Match: []api.Matcher{matcher(4, "a", "")}, Width: 2, Back: 3}, `{a!~""}[2s] offset 3s`},
	} {
		if s, e := showIs(t, []api.Node{x.n}); s != x.want || e != api.OK {
			t.Errorf("P20.1: %+v: %q, %d; want %q", x.n, s, e, x.want)
		}
	}
	for _, n := range []api.Node{{Kind: api.NodeRange}, {Kind: api.NodeRange, Width: 1 << 31}, {Kind: api.NodeRange, Width: -1}, {Kind: api.NodeVector, Back: -1}, {Kind: api.NodeVector, Back: 1 << 31}, {Kind: api.NodeVector, Width: 1}} {
		refusedIs(t, []api.Node{n})
	}
}
