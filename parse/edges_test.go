package parse

import (
	"errors"
	"strings"
	"testing"
	"time"

	"tidewrack/api"
)

// treeIs wants a tree of so many nodes.
func treeIs(t *testing.T, s string, nodes int) {
	t.Helper()
	if l, at, e := Parse(s); len(l) != nodes || at != 0 || e != api.OK {
		t.Errorf("P18.1: Parse(%.300q) of %d bytes: %s; want %d nodes", s, len(s), told(l, at, e), nodes)
	}
	parseIs(t, s)
}

// faultIs wants an error and its place.
func faultIs(t *testing.T, s string, at int, want api.Errno) {
	t.Helper()
	if l, place, e := Parse(s); len(l) != 0 || place != at || e != want {
		t.Errorf("P18.1: Parse(%.300q) of %d bytes: %s; want %d, %d", s, len(s), told(l, place, e), at, want)
	}
	parseIs(t, s)
}

// TestDeep: MaxNest brackets and signs may be open, of any kinds, and not one more.
func TestDeep(t *testing.T) {
	nests := []struct {
		ahead, behind string // the last byte ahead is what nests
		nodes         int
	}{
		{"(", ")", 0},
		{"-", "", 1},
		{"abs(", ")", 1},
		{"sum(", ")", 1},
		{"min by (a, b) (", ")", 1},
		{"avg without () (", ")", 1},
	}
	for _, a := range nests {
		for _, b := range nests {
			for _, n := range []int{0, 1, 31, 32, 62, 63, 64} {
				ahead := strings.Repeat(a.ahead, n)
				behind := strings.Repeat(a.behind, n)
				treeIs(t, ahead+strings.Repeat(b.ahead, 64-n)+"x"+strings.Repeat(b.behind, 64-n)+behind, 1+n*a.nodes+(64-n)*b.nodes)
				deep := ahead + strings.Repeat(b.ahead, 65-n)
				faultIs(t, deep, len(deep)-1, api.ErrParseDeep)
				faultIs(t, deep+"x) ]]", len(deep)-1, api.ErrParseDeep)
			}
		}
	}
}

// TestDeepPlaces: what may stand, and what else may be wrong, where MaxNest are open.
func TestDeepPlaces(t *testing.T) {
	open := strings.Repeat("(", 64)
	for _, s := range []string{"x - 1", "x - on (a, b) y", "x + ignoring () y", `{a="(-(-"}`, "x[5m] offset 1s"} {
		if _, e := parseIs(t, open+s+strings.Repeat(")", 64)); e != api.OK {
			t.Errorf("P18.1: %q behind 64 open: %d", s, e)
		}
	}
	for s, want := range map[string]struct {
		at int
		e  api.Errno
	}{
		"(1":             {0, api.ErrParseDeep},
		"-1":             {0, api.ErrParseDeep},
		"rate(x)":        {4, api.ErrParseDeep},
		"sum by (a) (x)": {11, api.ErrParseDeep},
		"1 - (":          {4, api.ErrParseDeep},
		"1 - -":          {4, api.ErrParseDeep},
		"1) + (1 + (":    {10, api.ErrParseDeep},
		"1)) + -(1 + -":  {12, api.ErrParseDeep},
		"sum by a":       {7, api.ErrParseToken},
		"rate x":         {5, api.ErrParseToken},
		"rate -":         {5, api.ErrParseToken},
		"x (1":           {2, api.ErrParseToken},
		"sum by ((":      {8, api.ErrParseToken},
		")":              {0, api.ErrParseToken},
		"":               {0, api.ErrParseEnd},
		"sum":            {3, api.ErrParseEnd},
		"sum by (":       {8, api.ErrParseEnd},
		"1 - ":           {4, api.ErrParseEnd},
	} {
		faultIs(t, open+s, 64+want.at, want.e)
		for _, other := range []string{strings.Repeat("-", 64), strings.Repeat("-(", 32), strings.Repeat("(-", 32), strings.Repeat("(", 63) + "-", "-" + strings.Repeat("abs(", 63), strings.Repeat("1 + (", 63)} {
			parseIs(t, other+s)
			parseIs(t, other+"1 + "+s)
			parseIs(t, other+"1)"+s)
		}
	}
}

// TestClosed: what is closed is not open any more, however much of it there was.
func TestClosed(t *testing.T) {
	for _, x := range []struct {
		part  string
		nodes int
	}{{"-1", 2}, {"(1)", 1}, {"-(-1)", 3}, {"abs(x)", 2}, {"sum by (a) (-x)", 3}, {"--(x)", 3}} {
		const n = 200
		many := strings.Repeat(x.part+" + ", n)
		treeIs(t, many+"1", n*(x.nodes+1)+1)
		for _, open := range []string{strings.Repeat("(", 61), strings.Repeat("1 * (", 61)} {
			others := 2 * strings.Count(open, "1")
			treeIs(t, open+many+"1"+strings.Repeat(")", 61), others+n*(x.nodes+1)+1)
			treeIs(t, open+many+"((-1"+strings.Repeat(")", 63), others+n*(x.nodes+1)+2)
			deep := open + many + "(((("
			faultIs(t, deep, len(deep)-1, api.ErrParseDeep)
		}
	}
}

// TestMatchers: how long a select's word and its texts may be, and how many matchers there may be, the word's one counted.
func TestMatchers(t *testing.T) {
	long := func(n int) string { return strings.Repeat("v", n) }
	for _, n := range []int{1, 64, 65, 255, 256} {
		treeIs(t, long(n), 1)
		treeIs(t, "1 + "+long(n)+"{}", 3)
		treeIs(t, `x{a="`+long(n)+`"}`, 1)
		treeIs(t, `{a!~"`+strings.Repeat(`\"`, n)+`"}`, 1) // what a text says counts, not how it stands
	}
	for _, n := range []int{257, 258, 1000, 2000} {
		faultIs(t, long(n), 0, api.ErrParseMatch)
		faultIs(t, "1 + "+long(n)+"{}", 4, api.ErrParseMatch)
		faultIs(t, "x + -"+long(n)+" y", 5, api.ErrParseMatch)
		faultIs(t, `x{a="`+long(n)+`"}`, 4, api.ErrParseMatch)
		faultIs(t, `{a="b", c!~"`+strings.Repeat(`\"`, n)+`"`, 11, api.ErrParseMatch)
		faultIs(t, "x "+long(n), 2, api.ErrParseToken)
		faultIs(t, "x{"+long(n), 2, api.ErrParseToken)
		faultIs(t, "sum by ("+long(n), 8, api.ErrParseToken)
		faultIs(t, `"`+long(n)+`"`, 0, api.ErrParseToken)
	}
	for n := range 30 {
		for _, word := range []string{"", "x", " x ", "1 + x", "x{a=\"b\"} + x"} {
			ms := strings.TrimSuffix(strings.Repeat(`a="b",`, n), ",")
			may := 8
			if word != "" {
				may = 7
			}
			s := word + "{" + ms + "}"
			at := len(word) + 1 + 6*may + 2 // of the text of the first one too many
			switch {
			case n <= may:
				if _, e := parseIs(t, s); e != api.OK {
					t.Errorf("P18.1: Parse(%q): %d", s, e)
				}
			default:
				faultIs(t, s, at, api.ErrParseMatch)
				faultIs(t, s[:at]+`"b"`, at, api.ErrParseMatch)
				faultIs(t, s[:at]+"b", at, api.ErrParseToken)
				faultIs(t, s[:at-1]+`"b"`, at-1, api.ErrParseToken)
				faultIs(t, s[:at-2]+"a:b=", at-2, api.ErrParseToken)
				faultIs(t, s[:at], at, api.ErrParseEnd)
			}
		}
	}
}

// TestLabelNames: a matcher's word and one in names are labels' names, a select's word need be none.
func TestLabelNames(t *testing.T) {
	for _, n := range []int{1, 2, 63, 64, 65, 66, 256, 300} {
		for _, word := range []string{strings.Repeat("n", n), strings.Repeat("_", n), "n" + strings.Repeat("9", n-1), strings.Repeat(":", n), strings.Repeat("n", n-1) + ":"} {
			for _, form := range []struct{ ahead, behind string }{{"{", `="b"}`}, {"x{", `="b"}`}, {`x{a="b",`, `="b"}`}, {"sum by (", ") (x)"}, {"sum without (a,", ",b) (x)"}, {"x + on (", ") y"}, {"x and ignoring (a,", ") y"}} {
				s := form.ahead + word + form.behind
				if n > 64 || strings.Contains(word, ":") {
					faultIs(t, s, len(form.ahead), api.ErrParseToken)
				} else if _, e := parseIs(t, s); e != api.OK {
					t.Errorf("P18.1: Parse(%q): %d", s, e)
				}
			}
			if n <= 256 {
				treeIs(t, word, 1)
			}
		}
	}
	for _, word := range keptWords {
		treeIs(t, "{"+word+`="b"}`, 1)
		treeIs(t, "sum by ("+word+", a, "+word+") (x)", 2)
		treeIs(t, "x * on (a, "+word+") y", 3)
		parseIs(t, word)
		parseIs(t, "x + "+word+"{}")
	}
}

// TestLexFirst: what lex refuses is told ahead of what reading would refuse, wherever it stands.
func TestLexFirst(t *testing.T) {
	for _, ahead := range []string{"", "x ", "x x ", ") ", "sum by ", "x{a= ", strings.Repeat("(", 70), strings.Repeat("v", 300) + " "} {
		faultIs(t, ahead+"$", len(ahead), api.ErrLexByte)
		faultIs(t, ahead+"01 x", len(ahead), api.ErrLexNumber)
		faultIs(t, ahead+"\"a", len(ahead), api.ErrLexText)
		faultIs(t, ahead+strings.Repeat(" ", api.MaxQuery+1), 0, api.ErrLexLong)
	}
}

// TestFirst: of several that are wrong the first from the left is told, and behind it may stand what will; the end is at the length.
func TestFirst(t *testing.T) {
	wrong := []struct {
		s  string
		at int
		e  api.Errno
	}{
		{"] ", 0, api.ErrParseToken},
		{"x[5] ", 2, api.ErrParseToken},
		{"x{a} ", 3, api.ErrParseToken},
		{"sum by (a b) ", 10, api.ErrParseToken},
		{strings.Repeat("v", 257) + " ", 0, api.ErrParseMatch},
		{`{a="` + strings.Repeat("v", 257) + `"} `, 3, api.ErrParseMatch},
		{strings.Repeat("(", 65) + " ", 64, api.ErrParseDeep},
		{strings.Repeat("-", 65) + " ", 64, api.ErrParseDeep},
	}
	for _, ahead := range []string{"", " \t\n", "x + ", "sum by (a) (x[5m]) * on (a) ", `{a="b"} unless `} {
		for _, first := range wrong {
			for _, second := range wrong {
				faultIs(t, ahead+first.s+second.s, len(ahead)+first.at, first.e)
			}
		}
	}
	for _, s := range []string{"", "x +", "x == bool", "(x", "sum", "sum by", "sum by (", "sum by (a", "sum by (a,", "sum by (a)", "sum by (a) (", "x{", "x{a", "x{a=", `x{a="b"`, `x{a="b",`, "x[", "x[5m", "x offset", "-", "x and on"} {
		for _, blanks := range []string{"", " ", "\n\n", strings.Repeat("\t", 1000)} {
			faultIs(t, s+blanks, len(s+blanks), api.ErrParseEnd)
		}
	}
}

// TestEveryText: every text comes to a tree or a place in it.
func TestEveryText(t *testing.T) {
	var all []byte
	for c := range 256 {
		all = append(all, byte(c))
		b := string(all[c:])
		for _, s := range []string{b, b + b, "x" + b, b + "x", "x" + b + "y", "(" + b + ")", "x{" + b + "}", "x[" + b + "]", `x{a="` + b + `"}`} {
			if l, e := parseIs(t, s); (e == api.OK) != (len(l) > 0) {
				t.Errorf("P18.2: Parse(%q): %d nodes, %d", s, len(l), e)
			}
		}
	}
	parseIs(t, string(all))
}

// TestNewMemory: R3.
func TestNewMemory(t *testing.T) {
	const s = `sum by (a, b) (x{a="b"}[5m]) + on (a) {c="d", e!="f"} * ignoring (g, h) y`
	want, _, _ := parseOf(s)
	first, _, _ := Parse(s)
	second, _, _ := Parse(s)
	spoil(t, first)
	if third, _, _ := Parse(s); !same(second, want) || !same(third, want) {
		t.Errorf("R3: whoever writes into an answer changes another one: %+v, %+v", second, third)
	}
	for i := range second { // a list's spare room is no other's memory
		l, _, _ := Parse(s)
		n := &l[i]
		n.Match = append(n.Match, api.Matcher{Name: "spoilt"})[:len(n.Match)]
		n.Names = append(n.Names, "spoilt")[:len(n.Names)]
		l = append(l, api.Node{Text: "spoilt"})[:len(l)]
		if !same(l, want) {
			t.Errorf("R3: whoever appends to a list of node %d changes another one: %+v", i, l)
		}
	}
}

// spoil writes over an answer, its spare room too, of which it tells if something stands there.
func spoil(t *testing.T, l []api.Node) {
	for i := range l {
		spoilList(t, l[i].Match, api.Matcher{Name: "spoilt"})
		spoilList(t, l[i].Names, "spoilt")
	}
	for _, n := range l[len(l):cap(l)] {
		if !same([]api.Node{n}, []api.Node{{}}) {
			t.Errorf("R3: behind the nodes: %+v", n)
		}
	}
	for i := range l {
		l[i] = api.Node{Kind: 9, Text: "spoilt"}
	}
}

func spoilList[T comparable](t *testing.T, l []T, with T) {
	var none T
	for _, x := range l[len(l):cap(l)] {
		if x != none {
			t.Errorf("R3: behind a list: %+v", x)
		}
	}
	for i := range l[:cap(l)] {
		l[:cap(l)][i] = with
	}
}

// TestSizes: the longest queries in a moment.
func TestSizes(t *testing.T) {
	fill := func(ahead, piece, behind string) string {
		return ahead + strings.Repeat(piece, (api.MaxQuery-len(ahead+behind))/len(piece)) + behind
	}
	queries := []string{fill("", "(", ""), fill("", "-", ""), fill("1", "+1", ""), fill("x", " or-x", ""), fill("sum by (a", ",a", ") (x)"), fill("x+on(a", ",a", ")y"), fill("{", "a=\"\",", "}"), fill("x", " ", ""), fill("x", " x", ""), fill("1", "<bool on()1", ""), fill("1", "*(1", "")}
	start := time.Now()
	for range 100 {
		for _, s := range queries {
			Parse(s)
		}
	}
	if took := time.Since(start); took > 10*time.Second {
		t.Errorf("R1: took %v", took)
	}
	for _, s := range queries {
		parseIs(t, s)
	}
}

// TestCaught: only what a reader throws is caught; a fault of the program is not to pass for one of the query.
func TestCaught(t *testing.T) {
	nodes := []api.Node{{Kind: api.NodeNumber, Text: "1"}}
	if l, at, e := caught(func() []api.Node { return nodes }); !same(l, nodes) || at != 0 || e != api.OK {
		t.Errorf("%s", told(l, at, e))
	}
	if l, at, e := caught(func() []api.Node { panic(fault{7, api.ErrParseDeep}) }); len(l) != 0 || at != 7 || e != api.ErrParseDeep {
		t.Errorf("%s", told(l, at, e))
	}
	mine := errors.New("a fault of the program")
	defer func() {
		if thrown := recover(); thrown != mine {
			t.Errorf("%v", thrown)
		}
	}()
	caught(func() []api.Node { panic(mine) })
}
