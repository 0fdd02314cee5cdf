package show

import (
	"math"
	"reflect"
	"slices"
	"strings"
	"testing"
	"time"

	"tidewrack/api"
)

// TestLong: texts of MaxQuery bytes and not of one more, whatever is long in them, and whatever is last.
func TestLong(t *testing.T) {
	full := vector(slices.Repeat([]api.Matcher{matcher(api.MatchEq, "a", strings.Repeat("v", 256))}, 8)...)
	by, without := grouped(agg(api.AggSum), api.GroupBy), grouped(agg(api.AggMin), api.GroupWithout)
	for name, x := range map[string]struct {
		ahead  []api.Node
		long   api.Node
		behind []api.Node
	}{
		"agg":      {[]api.Node{vector()}, by, nil},
		"call":     {[]api.Node{vector()}, by, []api.Node{fun(api.FuncAbs)}},
		"left":     {[]api.Node{vector()}, without, []api.Node{num("1"), bin(api.OpAdd)}},
		"right":    {[]api.Node{num("1"), vector()}, without, []api.Node{bin(api.OpAdd)}},
		"neg":      {[]api.Node{vector()}, by, []api.Node{neg()}},
		"on":       {[]api.Node{vector(), vector()}, grouped(bin(api.OpAnd), api.GroupOn), nil},
		"ignoring": {[]api.Node{named("x"), named("y")}, grouped(bin(api.OpMul), api.GroupIgnore), nil},
		"brackets": {[]api.Node{named("x"), named("y")}, grouped(bin(api.OpMul), api.GroupIgnore), []api.Node{neg()}},
		"offset":   {[]api.Node{{Kind: api.NodeVector, Back: 7}}, without, nil},
		"range":    {[]api.Node{{Kind: api.NodeRange, Width: 7}, fun(api.FuncRate)}, by, nil},
		"many":     {[]api.Node{vector()}, grouped(by, api.GroupBy, slices.Repeat([]string{"abc"}, 600)...), nil},
		"matchers": {[]api.Node{full}, without, nil},
		"quotes":   {[]api.Node{vector(matcher(api.MatchEq, "a", strings.Repeat("\"\\\n", 80)))}, by, nil},
	} {
		made := func(names ...string) []api.Node {
			n := x.long
			n.Names = append(slices.Clone(n.Names), names...)
			return slices.Concat(x.ahead, []api.Node{n}, x.behind)
		}
		s, e := Show(made("n"))
		if e != api.OK {
			t.Fatalf("P20.1: %s: %d", name, e)
		}
		for long := 4085; long <= 4110; long++ {
			l := made(namesOf(long - len(s) + 1)...)
			s, e := showIs(t, l)
			if long <= 4096 && (len(s) != long || e != api.OK) || long > 4096 && (s != "" || e != api.ErrShowTree) {
				t.Errorf("P20.1: %s of %d bytes: %d bytes, %d", name, long, len(s), e)
			}
		}
	}
}

// namesOf has names that take so many bytes in a list of no others.
func namesOf(bytes int) []string {
	var out []string
	for bytes > 64 {
		n := min(64, bytes-3)
		out = append(out, strings.Repeat("n", n))
		bytes -= n + 2
	}
	return append(out, strings.Repeat("n", bytes))
}

// TestLongSelects: a text of which the last byte is a select's.
func TestLongSelects(t *testing.T) {
	ahead := []api.Node{num("1")}
	for range 15 {
		ahead = append(ahead, named(strings.Repeat("w", 256)), bin(api.OpAdd))
	}
	for n := 1; n <= 256; n++ {
		for _, last := range []api.Node{
			named(strings.Repeat("w", n)),
			vector(matcher(api.MatchNe, "a", strings.Repeat("v", n))),
			vector(matcher(api.MatchLike, "a", strings.Repeat("\n", n))),
			{Kind: api.NodeVector, Match: named(strings.Repeat("w", n)).Match, Back: 1<<31 - 1},
		} {
			showIs(t, slices.Concat(ahead, []api.Node{last, bin(api.OpSub)}))
		}
	}
}

// TestChains: as many nodes as a text may have, and as types takes; where they nest to the right, as many as may be open.
func TestChains(t *testing.T) {
	wanted := func(may bool) api.Errno {
		if may {
			return api.OK
		}
		return api.ErrShowTree
	}
	for _, n := range []int{2, 3, 64, 65, 66, 67, 68, 1023, 1024, 1025, 1026, 2045, 2046, 2047, 2048, 2049, 3000} {
		left := append([]api.Node{num("1")}, slices.Repeat([]api.Node{num("1"), bin(api.OpMul)}, n-1)...)
		if s, e := showIs(t, left); e != wanted(n <= 1024) || e == api.OK && s != "1"+strings.Repeat(" * 1", n-1) {
			t.Errorf("P20.1: %d numbers: %d", n, e)
		}
		right := append(slices.Repeat([]api.Node{named("x")}, n), slices.Repeat([]api.Node{bin(api.OpOr)}, n-1)...)
		if _, e := showIs(t, right); e != wanted(n <= 66) {
			t.Errorf("P20.1: %d vectors, nested to the right: %d", n, e)
		}
	}
}

// TestDeep: MaxNest brackets and signs may be open, of any kinds, and not one more; names' brackets are none of these.
func TestDeep(t *testing.T) {
	nests := [][]api.Node{
		{neg()},
		{fun(api.FuncFloor)},
		{agg(api.AggSum)},
		{grouped(agg(api.AggAvg), api.GroupBy, "a", "b")},
		{grouped(agg(api.AggCount), api.GroupWithout)},
		{named("y"), bin(api.OpAdd), named("z"), bin(api.OpMul)},
		{named("y"), grouped(bin(api.OpAnd), api.GroupOn, "a"), neg()}, // two of them
	}
	seen := map[api.Errno]int{}
	for _, inner := range nests {
		for _, outer := range nests {
			for _, all := range []int{30, 31, 32, 33, 34, 61, 62, 63, 64, 65, 66} {
				for _, n := range []int{0, 1, 2, all / 2, all - 1} {
					_, e := showIs(t, slices.Concat([]api.Node{named("x")}, slices.Repeat(inner, n), slices.Repeat(outer, all-n)))
					seen[e]++
				}
			}
		}
	}
	if seen[api.OK] < 1000 || seen[api.ErrShowTree] < 500 {
		t.Errorf("%v", seen)
	}
}

// TestDeepAsWritten: trees that are just deep enough, and by one too deep.
func TestDeepAsWritten(t *testing.T) {
	for _, x := range []struct {
		nest []api.Node
		last []api.Node
		want string // of 64
	}{
		{[]api.Node{neg()}, nil, strings.Repeat("-", 64) + "x"},
		{[]api.Node{fun(api.FuncAbs)}, nil, strings.Repeat("abs(", 64) + "x" + strings.Repeat(")", 64)},
		{[]api.Node{grouped(agg(api.AggSum), api.GroupBy)}, nil, strings.Repeat("sum by () (", 64) + "x" + strings.Repeat(")", 64)},
		{[]api.Node{named("y"), bin(api.OpAdd), named("z"), bin(api.OpMul)}, nil, strings.Repeat("(", 64) + "x" + strings.Repeat(" + y) * z", 64)},
		{[]api.Node{fun(api.FuncAbs)}, []api.Node{named("y"), neg(), bin(api.OpAdd)}, strings.Repeat("abs(", 64) + "x" + strings.Repeat(")", 64) + " + -y"},
	} {
		for n := 63; n <= 65; n++ {
			l := slices.Concat([]api.Node{named("x")}, slices.Repeat(x.nest, n), x.last)
			s, e := showIs(t, l)
			if n == 64 && s != x.want || (n > 64) != (e == api.ErrShowTree) {
				t.Errorf("P20.1: %d deep: %q, %d; want %q, if 64", n, s, e, x.want)
			}
		}
	}
	refusedIs(t, slices.Concat([]api.Node{named("x")}, slices.Repeat([]api.Node{named("y"), bin(api.OpOr), neg()}, 33)))
}

// TestWrong: what types refuses is refused, whatever it is.
func TestWrong(t *testing.T) {
	refusedIs(t, nil)
	refusedIs(t, []api.Node{})
	refusedIs(t, []api.Node{neg()})
	bad := []api.Node{{}, {Kind: -1}, {Kind: 8}, {Kind: math.MaxInt}, {Kind: math.MinInt}, num(""), num("01"), num("1 + 1"), num("x"), num("5m"), vector(api.Matcher{}), vector(matcher(5, "a", "b")), vector(matcher(1, "1", "b")), vector(matcher(1, "a", strings.Repeat("v", 257))), fun(1), agg(1), bin(1)}
	for _, op := range []int{math.MinInt, -1, 0, 6, 13, 14, math.MaxInt} {
		bad = append(bad, fun(op))
		if op != 13 {
			bad = append(bad, agg(op))
		}
	}
	for _, n := range bad {
		refusedIs(t, []api.Node{n})
		refusedIs(t, []api.Node{num("1"), n})
		refusedIs(t, []api.Node{num("1"), num("2"), num("3"), n})
	}
	for _, l := range [][]api.Node{
		{num("1"), num("2")},
		{named("x"), fun(1)},
		{num("1"), fun(11)},
		{num("1"), num("2"), bin(api.OpLt)},
		{named("x"), num("2"), bin(api.OpAnd)},
		{named("x"), named("x"), grouped(bin(1), 1, "a")},
		{named("x"), named("x"), grouped(bin(1), 3, "1")},
		{named("x"), named("x"), grouped(bin(1), 0, "a")},
		{named("x"), grouped(agg(1), 3, "a")},
		{named("x"), grouped(agg(1), 1, "a:b")},
		{named("x"), grouped(agg(1), 1, strings.Repeat("n", 65))},
		{named("x"), {Kind: api.NodeNeg}},
		{named("x"), {Kind: api.NodeNeg, Parts: 2}},
		{named("x"), {Kind: api.NodeNeg, Parts: -1}},
		{named("x"), {Kind: api.NodeNeg, Parts: 1, Text: "-"}},
		{named("x"), {Kind: api.NodeNeg, Parts: 1, Bool: true}},
	} {
		refusedIs(t, l)
	}
}

// TestNilAndEmpty: they are one, in each list that a node has.
func TestNilAndEmpty(t *testing.T) {
	for _, l := range [][]api.Node{{vector()}, {vector(), agg(1)}, {vector(), grouped(agg(1), 1)}, {vector(), vector(), grouped(bin(11), 3)}, {vector(), num("1"), bin(2), neg()}, {{Kind: api.NodeRange, Width: 1}, fun(3)}} {
		empty := slices.Clone(l)
		for i := range empty {
			empty[i].Names = make([]string, 0, 3)
			if len(empty[i].Match) == 0 {
				empty[i].Match = make([]api.Matcher, 0, 3)
			}
		}
		s, e := showIs(t, l)
		if other, otherE := showIs(t, empty); other != s || otherE != e || e != api.OK {
			t.Errorf("P20.1: %q, %d with nil lists; %q, %d with empty ones", s, e, other, otherE)
		}
	}
}

// TestNothingIsChanged: what is handed in stays, and what lies behind its lists is not read (R3).
func TestNothingIsChanged(t *testing.T) {
	names := []string{"b", "a", "1"}
	ms := []api.Matcher{matcher(1, "__name__", "x"), matcher(2, "a", "\n"), matcher(3, "b", "\x00"), {}}
	l := []api.Node{
		vector(ms[:2]...),
		neg(),
		grouped(agg(1), api.GroupBy, names[:2]...),
		{Kind: 9},
	}
	beforeNames, beforeMs, before := slices.Clone(names), slices.Clone(ms), slices.Clone(l)
	for range 3 {
		if s, e := Show(l[:3]); s != `sum by (b, a) (-x{a!="\n"})` || e != api.OK {
			t.Errorf("R3: %q, %d", s, e)
		}
		if s, e := Show(l); s != "" || e != api.ErrShowTree {
			t.Errorf("R3: %q, %d", s, e)
		}
	}
	if !slices.Equal(names, beforeNames) || !slices.Equal(ms, beforeMs) || !reflect.DeepEqual(l, before) {
		t.Errorf("R3: %s, %q, %+v", told(l), names, ms)
	}
}

// TestSizes: a time, and room, that the nodes, names and texts explain.
func TestSizes(t *testing.T) {
	start := time.Now()
	many := slices.Repeat([]string{strings.Repeat("n", 64)}, 200000)
	full := vector(slices.Repeat([]api.Matcher{matcher(1, "__name__", strings.Repeat("(", 256))}, 8)...)
	wide := []api.Node{full}
	for range 2047 {
		wide = append(wide, full, bin(api.OpAdd))
	}
	for i, l := range [][]api.Node{
		append([]api.Node{vector()}, slices.Repeat([]api.Node{neg()}, 4095)...),
		append([]api.Node{vector()}, slices.Repeat([]api.Node{fun(11)}, 4095)...),
		append(slices.Repeat([]api.Node{vector()}, 2048), slices.Repeat([]api.Node{bin(1)}, 2047)...),
		append([]api.Node{vector(), grouped(agg(1), 1, many...)}, slices.Repeat([]api.Node{fun(11)}, 4094)...),
		append([]api.Node{vector()}, slices.Repeat([]api.Node{grouped(agg(1), 2, many[:5000]...)}, 4095)...),
		wide,
		slices.Repeat([]api.Node{vector()}, 1000000),
		{num(strings.Repeat("1", 1<<24))},
	} {
		if s, e := Show(l); s != "" || e != api.ErrShowTree {
			t.Errorf("list %d: %d bytes, %d", i, len(s), e)
		}
	}
	if took := time.Since(start); took > 20*time.Second {
		t.Errorf("it took %v", took)
	}
}

// TestPageEnds: what will be refused takes no more room.
func TestPageEnds(t *testing.T) {
	var p page
	for range 100000 {
		p.add("tide", "wrack")
		p.list("(", []string{"low", "level"}, ")")
	}
	if n := len(p.text); n <= api.MaxQuery || n > api.MaxQuery+len("wrack") {
		t.Errorf("a page of %d bytes", n)
	}
}
