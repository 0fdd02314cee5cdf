package match

import (
	"strings"
	"testing"
)

// isWhat is an alternative's definition, word by word: `*` says any bytes, none too, each other byte itself.
func isWhat(alternative, s string) bool {
	if alternative == "" {
		return s == ""
	}
	if alternative[0] == '*' {
		for n := 0; n <= len(s); n++ {
			if isWhat(alternative[1:], s[n:]) {
				return true
			}
		}
		return false
	}
	return s != "" && s[0] == alternative[0] && isWhat(alternative[1:], s[1:])
}

// isLike is a pattern's definition.
func isLike(pattern, s string) bool {
	for at := range len(pattern) {
		if pattern[at] == '|' {
			return isWhat(pattern[:at], s) || isLike(pattern[at+1:], s)
		}
	}
	return isWhat(pattern, s)
}

// words has each text of at most n bytes out of those of the alphabet.
func words(alphabet string, n int) []string {
	out := []string{""}
	for from := 0; n > 0; n-- {
		to := len(out)
		for _, w := range out[from:to] {
			for i := range len(alphabet) {
				out = append(out, w+alphabet[i:i+1])
			}
		}
		from = to
	}
	return out
}

func wantLike(t *testing.T, pattern, s string, want bool) {
	t.Helper()
	if got := Like(pattern, s); got != want {
		t.Errorf("P4.2: Like(%.99q, %.99q): %v", pattern, s, got)
	}
}

func TestLikeExamples(t *testing.T) {
	for _, x := range []struct {
		pattern, s string
		want       bool
	}{
		{"a*c|d", "abc", true}, {"a*c|d", "d", true}, {"a|", "", true}, {"a", "ab", false},
		{"", "", true}, {"", "a", false}, {"|a", "", true}, {"a||b", "", true}, {"a|b", "", false}, {"|", "|", false},
		{"a*b", "ab", true}, {"a*b", "a", false}, {"a*b", "b", false}, {"ab*ba", "aba", false}, {"ab*ba", "abba", true}, {"a*a*a", "aa", false}, {"a*a*a", "aaa", true},
		{"*ab", "aab", true}, {"*ab", "aba", false}, {"*aab*", "aaab", true}, {"*ab*cd*", "abcabcd", true}, {"*cd*ab*", "abcd", false}, {"a*|*b", "xb", true}, {"a*|*b", "xbx", false},
		{"level*|depth", "level_max", true}, {"level*|depth", "depths", false}, {"level*|depth", "Level", false},
	} {
		wantLike(t, x.pattern, x.s, x.want)
	}
}

// TestLikeEveryShortPattern holds Like against the definition, over texts that have the signs themselves too.
func TestLikeEveryShortPattern(t *testing.T) {
	texts := words("ab*|", 4)
	for _, p := range words("ab*|", 6) {
		for _, s := range texts {
			if Like(p, s) != isLike(p, s) {
				t.Fatalf("P4.2: Like(%q, %q): %v", p, s, Like(p, s))
			}
		}
	}
}

func TestLikeLongerWords(t *testing.T) {
	texts := words("ab", 9)
	for _, p := range words("ab*", 7) {
		if strings.Count(p, "*") < 2 {
			continue
		}
		for _, s := range texts {
			if Like(p, s) != isLike(p, s) {
				t.Fatalf("P4.2: Like(%q, %q): %v", p, s, Like(p, s))
			}
		}
	}
}

// TestLikeEveryByte: each byte but the two signs says itself, and a star any of them: bytes, not runes.
func TestLikeEveryByte(t *testing.T) {
	for x := range 256 {
		one := string([]byte{byte(x)})
		wantLike(t, "*", one, true)
		wantLike(t, "a*b", "a"+one+"b", true)
		wantLike(t, "a*b", "a"+one+one, x == 'b')
		for y := range 256 {
			other := string([]byte{byte(y)})
			wantLike(t, one, other, x == '*' || x == y && x != '|')
			wantLike(t, "."+one+"?", "."+other+"?", x == '*' || x == y && x != '|')
			wantLike(t, "."+one+"?", "."+other+other+"?", x == '*')
		}
	}
	wantLike(t, "\xc3*", "é", true)
	wantLike(t, "*\xa9", "é", true)
	wantLike(t, "é|\xff", "\xff", true)
	wantLike(t, "é", "e\u0301", false)
	wantLike(t, "\xff", "\ufffd", false)
	wantLike(t, "\ufffd", "\xff", false)
	wantLike(t, `a\*`, "a*", false)
	wantLike(t, `a\*`, `a\x`, true)
	wantLike(t, `a\|b`, "a|b", false)
	wantLike(t, `a\|b`, `a\`, true)
	wantLike(t, "[ab]", "a", false)
	wantLike(t, "(a)", "(a)", true)
}

// TestLikeItself: P4.4's laws of patterns.
func TestLikeItself(t *testing.T) {
	texts := append(words("ab*|\n", 3), "\xff", "é", strings.Repeat("long ", 1000))
	for _, s := range texts {
		wantLike(t, "*", s, true)
		for _, p := range texts {
			if !strings.ContainsAny(p, "*|") && Like(p, s) != (p == s) {
				t.Errorf("P4.4: Like(%.60q, %.60q): %v", p, s, Like(p, s))
			}
			if Like(p+"|"+s, s) != (Like(p, s) || Like(s, s)) {
				t.Errorf("P4.4: Like(%.60q, %.60q)", p+"|"+s, s)
			}
		}
	}
}

// TestLikeManyStars: tried place by place, these would not end.
func TestLikeManyStars(t *testing.T) {
	text := strings.Repeat("a", 100000)
	stars := strings.Repeat("*a", 5000)
	wantLike(t, stars, text, true)
	wantLike(t, stars+"*", text, true)
	wantLike(t, stars+"*b", text, false)
	wantLike(t, stars+"b*", text, false)
	wantLike(t, stars, text[:4999], false)
	wantLike(t, stars, text[:5000], true)
	wantLike(t, strings.Repeat("*", 1<<20), text, true)
	wantLike(t, strings.Repeat("*", 1<<20)+"b", text, false)
	wantLike(t, strings.Repeat("*ab", 3000)+"*|"+stars, strings.Repeat("ab", 2999), false)
	wantLike(t, strings.Repeat("*ab", 3000)+"*|"+stars, strings.Repeat("ab", 3000), true)
}

// TestLikeLongPieces: texts between stars that nearly stand at every place.
func TestLikeLongPieces(t *testing.T) {
	text := strings.Repeat("a", 200000)
	piece := text[:1000]
	wantLike(t, "*"+piece+"b*", text, false)
	wantLike(t, "*b"+piece+"*", text, false)
	wantLike(t, "*"+piece[:500]+"b"+piece[:499]+"*", text, false)
	wantLike(t, "*"+piece+"b*", text+"b", true)
	wantLike(t, strings.Repeat("*"+piece, 200), text, true)
	wantLike(t, strings.Repeat("*"+piece, 201), text, false)
}

func TestLikeManyAlternatives(t *testing.T) {
	many := strings.Repeat("|", 1<<20)
	wantLike(t, many, "", true)
	wantLike(t, many, "a", false)
	wantLike(t, "b"+many+"a", "a", true)
	wantLike(t, "b"+many+"a", "c", false)
	text := strings.Repeat("ab", 50000)
	wantLike(t, strings.Repeat("*c|", 2000)+"*b", text, true)
	wantLike(t, strings.Repeat("*c*|", 2000)+"*a", text, false)
	wantLike(t, text+"|"+text+"a", text+"a", true)
	wantLike(t, text+"|"+text+"a", text+"b", false)
}
