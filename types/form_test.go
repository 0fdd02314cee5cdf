package types

import (
	"math"
	"math/rand/v2"
	"slices"
	"strings"
	"testing"

	"tidewrack/api"
	"tidewrack/lex"
)

func number(text string) api.Node {
	return api.Node{Kind: api.NodeNumber, Text: text}
}

func vector() api.Node {
	return api.Node{Kind: api.NodeVector}
}

func ranged() api.Node {
	return api.Node{Kind: api.NodeRange, Width: 60}
}

// lists of matchers: none, good ones, ones that match.Check refuses.
func matchLists() [][]api.Matcher {
	good := api.Matcher{Kind: api.MatchEq, Name: "a", Value: "b"}
	return [][]api.Matcher{nil, {}, {good}, slices.Repeat([]api.Matcher{good}, 8), slices.Repeat([]api.Matcher{good}, 9), {{Kind: 5, Name: "a"}}, {good, {Kind: api.MatchNot, Name: "1"}}}
}

// TestAllFields: each kind with each value of each field beside each of all others, behind no node, one and two.
func TestAllFields(t *testing.T) {
	var n api.Node
	count := 0
	ahead := [][]api.Node{{}, {ranged(), vector()}}
	ask := func() {
		count++
		for _, l := range ahead {
			checkIs(t, append(slices.Clone(l), n))
		}
	}
	names := [][]string{nil, {}, {"a"}, {"b", "a:b"}}
	matches := matchLists()
	var rest []func(next func())
	field := func(values int, set func(i int)) {
		rest = append(rest, func(next func()) {
			for i := range values {
				set(i)
				next()
			}
			set(0)
		})
	}
	field(10, func(i int) { n.Kind = i - 1 })
	field(5, func(i int) { n.Op = []int{0, 1, 5, 13, -1}[i] })
	field(3, func(i int) { n.Text = []string{"", "1", "01"}[i] })
	field(3, func(i int) { n.Match = [][]api.Matcher{nil, matches[2], matches[5]}[i] })
	field(3, func(i int) { n.Width = []int64{0, 1, -1}[i] })
	field(3, func(i int) { n.Back = []int64{0, 1, -1}[i] })
	field(5, func(i int) { n.Group = i })
	field(4, func(i int) { n.Names = names[i] })
	field(2, func(i int) { n.Bool = i == 1 })
	field(4, func(i int) { n.Parts = i })
	var each func(i int)
	each = func(i int) {
		if i == len(rest) {
			ask()
			return
		}
		rest[i](func() { each(i + 1) })
	}
	each(0)
	if count != 10*5*3*3*3*3*5*4*2*4 {
		t.Errorf("%d nodes were asked", count)
	}
}

// right are nodes that are right behind two vectors, or behind a range.
func right() []api.Node {
	return []api.Node{
		number("0.5"),
		vector(),
		ranged(),
		{Kind: api.NodeCall, Op: api.FuncAbs, Parts: 1},
		{Kind: api.NodeCall, Op: api.FuncRate, Parts: 1},
		{Kind: api.NodeAgg, Op: api.AggSum, Parts: 1},
		{Kind: api.NodeAgg, Op: api.AggSum, Group: api.GroupBy, Names: []string{"a"}, Parts: 1},
		{Kind: api.NodeBin, Op: api.OpAdd, Parts: 2},
		{Kind: api.NodeBin, Op: api.OpEq, Bool: true, Group: api.GroupIgnore, Names: []string{"a"}, Parts: 2},
		{Kind: api.NodeNeg, Parts: 1},
	}
}

// fieldChanges sets one field of a node to each value about its edges.
func fieldChanges(n api.Node, ask func(api.Node)) {
	numbers := []int64{math.MinInt64, -1 << 32, -1 << 31, -2, -1, 0, 1, 2, 3, 4, 5, 6, 7, 8, 9, 10, 11, 12, 13, 14, 15, 1<<31 - 2, 1<<31 - 1, 1 << 31, 1<<32 + 1, 1<<32 + 5, math.MaxInt64}
	for _, x := range numbers {
		for i := range 6 {
			c := n
			switch i {
			case 0:
				c.Kind = int(x)
			case 1:
				c.Op = int(x)
			case 2:
				c.Width = x
			case 3:
				c.Back = x
			case 4:
				c.Group = int(x)
			case 5:
				c.Parts = int(x)
			}
			ask(c)
		}
	}
	for _, s := range []string{"", " ", "a", "1", "0", "x", "1 "} {
		c := n
		c.Text = s
		ask(c)
	}
	for _, ms := range matchLists() {
		c := n
		c.Match = ms
		ask(c)
	}
	c := n
	c.Bool = !n.Bool
	ask(c)
}

// TestChanges: one or two fields of a node that is right set to values about their edges.
func TestChanges(t *testing.T) {
	for _, n := range right() {
		for _, ahead := range [][]api.Node{{ranged()}, {vector(), vector()}, {number("1"), number("2")}} {
			ask := func(c api.Node) { checkIs(t, append(slices.Clone(ahead), c)) }
			fieldChanges(n, func(c api.Node) { fieldChanges(c, ask) })
		}
	}
}

// TestNumbers: Text is a number of chapter 17, and nothing beside it.
func TestNumbers(t *testing.T) {
	ask := func(s string) {
		checkIs(t, []api.Node{number(s)})
		tokens, _, e := lex.Lex(s)
		want := e == api.OK && len(tokens) == 2 && tokens[0].Kind == api.TokNumber && tokens[0].Text == s
		if _, _, e := Check([]api.Node{number(s)}); (e == api.OK) != want {
			t.Errorf("P19.1: a number of the text %q: %d", s, e)
		}
	}
	alphabet := []string{"0", "1", "9", ".", " ", "-", "s", "(", ")", "\n"}
	var short func(s string, left int)
	short = func(s string, left int) {
		ask(s)
		if left > 0 {
			for _, c := range alphabet {
				short(s+c, left-1)
			}
		}
	}
	short("", 4)
	for c := range 256 {
		b := string([]byte{byte(c)})
		for _, s := range []string{b, b + "1", "1" + b, "1" + b + "1", "0" + b, "0." + b, "1.5" + b} {
			ask(s)
		}
	}
	for n := range 40 {
		for point := range n + 1 {
			ask(strings.Repeat("7", point) + "." + strings.Repeat("7", n-point))
			ask("0." + strings.Repeat("0", n))
		}
		ask(strings.Repeat("7", n))
		ask(strings.Repeat("0", n))
	}
	for _, s := range []string{"1 + 1", "x", "\"1\"", "1e5", "+1", "0x1", "1_0", "Inf", "NaN", "१", "1\x00", "--1", "((1))", "1 # 1", strings.Repeat("1", 5000), strings.Repeat(" ", 5000) + "1", "1" + strings.Repeat(" ", 4096), "1m", "1,1"} {
		ask(s)
	}
}

// TestNames: each byte in each place of a name, lengths, and a name that is none among others.
func TestNames(t *testing.T) {
	groups := []api.Node{
		{Kind: api.NodeAgg, Op: api.AggMax, Group: api.GroupBy, Parts: 1},
		{Kind: api.NodeAgg, Op: api.AggMax, Group: api.GroupWithout, Parts: 1},
		{Kind: api.NodeBin, Op: api.OpAnd, Group: api.GroupOn, Parts: 2},
		{Kind: api.NodeBin, Op: api.OpMul, Group: api.GroupIgnore, Parts: 2},
	}
	ask := func(names ...string) {
		for _, n := range groups {
			n.Names = names
			checkIs(t, []api.Node{vector(), vector(), n})
			checkIs(t, []api.Node{vector(), n})
		}
	}
	ask()
	for c := range 256 {
		b := string([]byte{byte(c)})
		ask(b)
		ask(b + "a")
		ask("a"+b, "b")
		ask("z", "a"+b+"a")
	}
	for n := range 200 {
		ask(strings.Repeat("n", n))
		ask("a", strings.Repeat("n", n), "b")
		ask(slices.Repeat([]string{"a"}, n)...)
		ask(append(slices.Repeat([]string{"a"}, n), "")...)
	}
	for _, s := range []string{"and", "bool", "by", "__name__", "é", "a b", "sum"} {
		ask(s, s)
	}
}

// TestNilAndEmpty: they are one, in each list that a node has.
func TestNilAndEmpty(t *testing.T) {
	for _, n := range right() {
		c := n
		if len(c.Match) == 0 {
			c.Match = make([]api.Matcher, 0, 3)
		}
		if len(c.Names) == 0 {
			c.Names = make([]string, 0, 3)
		}
		for _, ahead := range [][]api.Node{{}, {vector()}, {ranged()}, {vector(), vector()}} {
			kind, at, e := Check(append(slices.Clone(ahead), n))
			if k, a, other := Check(append(slices.Clone(ahead), c)); k != kind || a != at || other != e {
				t.Errorf("P19.1: %s: %d, %d, %d with nil lists; %d, %d, %d with empty ones", told([]api.Node{n}), kind, at, e, k, a, other)
			}
		}
	}
	if kind, n, e := Check(nil); kind != 0 || n != 0 || e != api.ErrTypeTree {
		t.Errorf("P19.1: Check(nil): %d, %d, %d", kind, n, e)
	}
	if kind, n, e := Check(make([]api.Node, 0, 5)); kind != 0 || n != 0 || e != api.ErrTypeTree {
		t.Errorf("P19.1: Check of none: %d, %d, %d", kind, n, e)
	}
}

// TestChance: nodes with fields by chance.
func TestChance(t *testing.T) {
	r := rand.New(rand.NewPCG(19, 1))
	seen := map[api.Errno]int{}
	for range 100000 {
		var l []api.Node
		for range 1 + r.IntN(6) {
			n := right()[r.IntN(len(right()))]
			if r.IntN(4) == 0 {
				n.Op = r.IntN(15)
			}
			if r.IntN(4) == 0 {
				n.Group = r.IntN(5)
			}
			switch r.IntN(20) {
			case 0:
				n.Bool = !n.Bool
			case 1:
				n.Parts = r.IntN(4)
			case 2:
				n.Match = matchLists()[r.IntN(7)]
			case 3:
				n.Names = nil
			case 4:
				n.Width = int64(r.IntN(3))
			}
			l = append(l, n)
		}
		_, e := checkIs(t, l)
		seen[e]++
	}
	for _, e := range []api.Errno{api.OK, api.ErrTypeTree, api.ErrTypeArg, api.ErrTypeOp, api.ErrTypeMatch} {
		if seen[e] < 100 {
			t.Errorf("%d was told %d times", e, seen[e])
		}
	}
}
