package parse

import (
	"fmt"
	"math/rand/v2"
	"slices"
	"strings"
	"testing"

	"tidewrack/api"
	"tidewrack/lex"
)

// tokenOf is the token that a text is.
func tokenOf(s string) api.Token {
	l, _, _ := lex.Lex(s)
	return l[0]
}

func tokensOf(texts []string) []api.Token {
	var out []api.Token
	for _, s := range texts {
		out = append(out, tokenOf(s))
	}
	return out
}

// TestShort: all short queries, each token that can't stand where it does asked for once behind each beginning that could go on.
func TestShort(t *testing.T) {
	for _, x := range []struct {
		texts string
		n     int
	}{
		{`1 5m x or and bool on by sum rate offset "t" == = + * - ( ) { } [ ] ,`, 5},
		{`x or unless < + * -`, 7},
		{`1 - ( ) + ==`, 8},
		{`x { } = =~ "t" ,`, 14},
		{`x [ ] 5m offset 1d +`, 9},
		{`max by without ( ) x ,`, 9},
		{`a != bool ignoring ( ) ,`, 9},
		{`floor ( x [ 2h ] ) -`, 8},
	} {
		texts := strings.Fields(x.texts)
		tokens := tokensOf(texts)
		seen := map[api.Errno]int{}
		var from func(s string, stacks []*stack, n int)
		from = func(s string, stacks []*stack, n int) {
			_, e := parseIs(t, s)
			seen[e]++
			if n == 0 {
				return
			}
			for i, token := range tokens {
				longer := s + " " + texts[i]
				if left := behind(stacks, token); len(left) > 0 {
					from(longer, left, n-1)
				} else {
					_, e := parseIs(t, longer)
					seen[e]++
				}
			}
		}
		from("", begin(), x.n)
		if seen[api.OK] < 25 || seen[api.ErrParseEnd] < 100 || seen[api.ErrParseToken] < 500 {
			t.Errorf("%s: %v", x.texts, seen)
		}
	}
}

// TestEachWord: each word, sign and other token in each place, those that are kept and those that nearly are.
func TestEachWord(t *testing.T) {
	tokens := append([]string{"0", "2.5", "1s", `""`, `"or"`, `"("`, `"-"`, "=", "=~", "!~", "(", ")", "{", "}", "[", "]", ",", "()", "{}", "x", "_", ":", "x:y", "or_", "Or", "OR", "rates", "sum_", "sum_over", "sum_over_time_", "over_time", "bool_", "__name__", "Offset", "avgs", "ons", "bys", "s", "m"}, keptWords...)
	tokens = append(tokens, opWords...)
	for _, a := range tokens {
		for _, form := range []string{"%s", "-%s", "--%s", "(%s)", "%s(x)", "%s(x[1s])", "%s()", "%s by (x) (y)", "%s without () (y)", "%s on (a) (b)", "%s{}", `%s{a="b"}`, "%s[5m]", "%s[5m] offset 1s", "%s offset 3d", "x %s", "x %s y", "1 %s 2", "x %s -y", "x %s (y)", "x %s bool y", "x %s on (a) y", "x %s ignoring (a, b) y", "x %s by (a) y", "x %s without (a) y", "x %s bool on () y", "x %s on (a) bool y", "x %s (a) y", "x == %s (a) y", "x == bool %s (a) y", "x == %s y", "x + %s y", "x and %s y", "x + %s", "x + %s (a) y", "sum %s (a) (x)", "sum (x) %s (a)", "sum by (%s) (x)", "sum by (a, %s) (x)", "sum by (a %s b) (x)", "sum by (a) %s x)", "x * on (%s) y", `{%s="b"}`, `x{%s="b"}`, `x{a="b", %s!="c"}`, `x{a %s "b"}`, "x{a = %s}", `x{a = "b" %s}`, `x{a = "b" %s c = "d"}`, "x[%s]", "x[5m %s", "x offset %s", "x[5m] %s 1s", "rate %s", "rate %s x)", "rate(x %s", "x + y %s z", "x * y %s z", "x < y %s z", "x or y %s z", "x unless y %s z", "-x %s z", "(x %s z) %s y"} {
			parseIs(t, strings.ReplaceAll(form, "%s", a))
		}
		for _, b := range tokens {
			parseIs(t, a+" "+b)
			parseIs(t, "x "+a+" "+b+" y")
			parseIs(t, a+" (x) "+b+" y")
		}
	}
}

// TestNumbers: the number of each word and sign, as the chapter lists them.
func TestNumbers(t *testing.T) {
	last := func(s string) api.Node {
		l, at, e := Parse(s)
		if e != api.OK {
			t.Fatalf("P18.1: Parse(%q): %d, %d", s, at, e)
		}
		return l[len(l)-1]
	}
	for word, want := range map[string]int{"rate": api.FuncRate, "increase": api.FuncIncrease, "delta": api.FuncDelta, "sum_over_time": api.FuncSum, "avg_over_time": api.FuncAvg, "min_over_time": api.FuncMin, "max_over_time": api.FuncMax, "count_over_time": api.FuncCount, "last_over_time": api.FuncLast, "wave": api.FuncWave, "abs": api.FuncAbs, "floor": api.FuncFloor} {
		if n := last(word + "(x)"); n.Kind != api.NodeCall || n.Op != want || n.Parts != 1 {
			t.Errorf("P18.1: %s: %+v", word, n)
		}
	}
	for word, want := range map[string]int{"sum": api.AggSum, "min": api.AggMin, "max": api.AggMax, "avg": api.AggAvg, "count": api.AggCount} {
		if n := last(word + "(x)"); n.Kind != api.NodeAgg || n.Op != want || n.Parts != 1 || n.Group != api.GroupNone {
			t.Errorf("P18.1: %s: %+v", word, n)
		}
		for by, group := range map[string]int{"by": api.GroupBy, "without": api.GroupWithout} {
			if n := last(word + " " + by + " (b, a, b) (x)"); n.Op != want || n.Group != group || strings.Join(n.Names, " ") != "b a b" {
				t.Errorf("P18.1: %s %s: %+v", word, by, n)
			}
		}
	}
	for sign, want := range map[string]int{"+": api.OpAdd, "-": api.OpSub, "*": api.OpMul, "/": api.OpDiv, "==": api.OpEq, "!=": api.OpNe, "<": api.OpLt, "<=": api.OpLe, ">": api.OpGt, ">=": api.OpGe, "and": api.OpAnd, "or": api.OpOr, "unless": api.OpBut} {
		if n := last("x " + sign + " y"); n.Kind != api.NodeBin || n.Op != want || n.Parts != 2 || n.Bool || n.Group != api.GroupNone {
			t.Errorf("P18.1: %s: %+v", sign, n)
		}
		for on, group := range map[string]int{"on": api.GroupOn, "ignoring": api.GroupIgnore} {
			if n := last("x " + sign + " " + on + " (b, a, b) y"); n.Op != want || n.Group != group || strings.Join(n.Names, " ") != "b a b" {
				t.Errorf("P18.1: %s %s: %+v", sign, on, n)
			}
		}
		_, at, e := Parse("x " + sign + " bool y")
		if compares := want >= api.OpEq && want <= api.OpGe; compares != (e == api.OK) || !compares && (at != len(sign)+3 || e != api.ErrParseToken) {
			t.Errorf("P18.1: %s bool: %d, %d", sign, at, e)
		}
	}
	for sign, want := range map[string]int{"=": api.MatchEq, "!=": api.MatchNe, "=~": api.MatchLike, "!~": api.MatchNot} {
		if n := last(`{a` + sign + `"b"}`); len(n.Match) != 1 || n.Match[0] != (api.Matcher{Kind: want, Name: "a", Value: "b"}) {
			t.Errorf("P18.1: %s: %+v", sign, n)
		}
	}
}

// TestRows: every two operations, by which of them binds more, with brackets and signs about them.
func TestRows(t *testing.T) {
	for _, a := range opWords {
		for _, b := range opWords {
			for _, form := range []string{"x %s y %s z", "(x %s y) %s z", "x %s (y %s z)", "-x %s -y %s -z", "-(x %s y) %s z", "x %s abs(y %s z)", "x %s on (a) y %s ignoring (b) z"} {
				if _, e := parseIs(t, fmt.Sprintf(form, a, b)); e != api.OK {
					t.Errorf("P18.1: %s: %d", fmt.Sprintf(form, a, b), e)
				}
			}
			for _, c := range opWords {
				for _, d := range opWords {
					parseIs(t, fmt.Sprintf("w %s x %s -y %s z %s 1", a, b, c, d))
				}
			}
		}
	}
}

// texts are what queries by chance are made of.
var texts = strings.Fields(`0 1 2.50 5m 1d x y:z __name__ or and unless bool on ignoring by without offset rate floor sum count "" "t*|u" "\n\"" = != =~ !~ == < <= > >= + - * / ( ) { } [ ] ,`)

// closers are such that, wherever a query is, the first of them that may stand there, and so on, bring it to its end.
var closers = strings.Fields(`) } ] x ( 5m "" =`)

// walk is a query by chance of at least so many tokens, and not many more.
func walk(r *rand.Rand, atLeast int) []string {
	var out []string
	stacks := begin()
	for {
		tries := []string{texts[r.IntN(len(texts))]}
		if len(out) >= atLeast {
			if len(behind(stacks, api.Token{Kind: api.TokEnd})) > 0 {
				return out
			}
			tries = closers
		}
		for _, s := range tries {
			if left := behind(stacks, tokenOf(s)); len(left) > 0 {
				stacks = left
				out = append(out, s)
				break
			}
		}
	}
}

// spaced puts blanks by chance, or none where none are needed, between texts.
func spaced(r *rand.Rand, texts []string) string {
	gaps := []string{" ", "  ", "\t", "\n", "\r\n"}
	var out strings.Builder
	for i, s := range texts {
		if i > 0 && glues(texts[i-1], s) || r.IntN(3) == 0 {
			out.WriteString(gaps[r.IntN(len(gaps))])
		}
		out.WriteString(s)
	}
	if r.IntN(3) == 0 {
		out.WriteString(gaps[r.IntN(len(gaps))])
	}
	return out.String()
}

// glues asks whether two texts side by side are other tokens than they are apart.
func glues(a, b string) bool {
	l, _, e := lex.Lex(a + b)
	return e != api.OK || len(l) != 3 || l[1].At != len(a)
}

// changed is a query with a token more, less, or another one.
func changed(r *rand.Rand, texts []string, other string) []string {
	at := r.IntN(len(texts))
	switch r.IntN(4) {
	case 0:
		return slices.Insert(slices.Clone(texts), at, other)
	case 1:
		return slices.Delete(slices.Clone(texts), at, at+1)
	case 2:
		return texts[:at]
	}
	out := slices.Clone(texts)
	out[at] = other
	return out
}

// TestByChance: queries of any size, and such with a token more, less, or another one.
func TestByChance(t *testing.T) {
	r := rand.New(rand.NewPCG(18, 1))
	for i := range 4000 {
		q := walk(r, 1+i%60)
		if _, e := parseIs(t, spaced(r, q)); e != api.OK && e != api.ErrParseMatch {
			t.Errorf("P18.1: %q: %d", q, e)
		}
		for range 4 {
			parseIs(t, spaced(r, changed(r, q, texts[r.IntN(len(texts))])))
		}
	}
	for range 100 {
		q := walk(r, 1000)
		parseIs(t, spaced(r, q))
		parseIs(t, spaced(r, changed(r, q, texts[r.IntN(len(texts))])))
	}
}

// TestBlanksAndBrackets: P18.2.
func TestBlanksAndBrackets(t *testing.T) {
	r := rand.New(rand.NewPCG(18, 2))
	for i := range 2000 {
		q := walk(r, 1+i%40)
		l, at, e := Parse(strings.Join(q, " "))
		for range 4 {
			if other, otherAt, otherE := Parse(spaced(r, q)); !same(other, l) || otherE != e || (at == 0) != (otherAt == 0) {
				t.Errorf("P18.2: %q: %s; %s", q, told(l, at, e), told(other, otherAt, otherE))
			}
		}
		for n := range 10 {
			s := strings.Repeat("( ", n) + strings.Join(q, " ") + strings.Repeat(" )", n)
			if other, otherAt, otherE := Parse(s); e == api.OK && (!same(other, l) || otherAt != at || otherE != e) {
				t.Errorf("P18.2: %q: %s; %s", s, told(l, at, e), told(other, otherAt, otherE))
			}
		}
	}
}
