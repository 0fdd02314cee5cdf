package types

import (
	"math/rand/v2"
	"reflect"
	"slices"
	"strings"
	"testing"
	"time"

	"tidewrack/api"
	"tidewrack/parse"
)

// pieces are nodes of each sort, right ones and wrong ones.
func pieces() []api.Node {
	return []api.Node{
		number("1"),
		vector(),
		ranged(),
		{Kind: api.NodeCall, Op: api.FuncRate, Parts: 1},
		{Kind: api.NodeCall, Op: api.FuncFloor, Parts: 1},
		{Kind: api.NodeAgg, Op: api.AggCount, Parts: 1},
		{Kind: api.NodeNeg, Parts: 1},
		{Kind: api.NodeBin, Op: api.OpSub, Parts: 2},
		{Kind: api.NodeBin, Op: api.OpLt, Parts: 2},
		{Kind: api.NodeBin, Op: api.OpLt, Bool: true, Parts: 2},
		{Kind: api.NodeBin, Op: api.OpBut, Parts: 2},
		{Kind: api.NodeBin, Op: api.OpDiv, Group: api.GroupOn, Parts: 2},
		{Kind: api.NodeVector, Match: []api.Matcher{{}}},
		{Kind: api.NodeNeg, Parts: 2},
	}
}

// TestAllSmallLists: all lists of up to five pieces.
func TestAllSmallLists(t *testing.T) {
	all := pieces()
	taken := 0
	var each func(l []api.Node)
	each = func(l []api.Node) {
		if _, e := checkIs(t, l); e == api.OK {
			taken++
			readOneWay(t, l)
		}
		if len(l) == 5 {
			return
		}
		for _, n := range all {
			each(append(l[:len(l):len(l)], n))
		}
	}
	each(nil)
	if taken < 500 {
		t.Errorf("%d lists were taken", taken)
	}
}

// readOneWay holds P19.2 of a tree that was taken: no ending of it is a tree, so that where a part begins is never open; and a beginning is told as far as it goes.
func readOneWay(t *testing.T, l []api.Node) {
	t.Helper()
	for i := 1; i < len(l); i++ {
		if kind, _, e := Check(l[i:]); kind != 0 || e == api.OK {
			t.Errorf("P19.2: Check takes %s, and what stands behind its first %d nodes, too", told(l), i)
		}
		if _, n, e := Check(l[:i]); e != api.OK && (n != i || e != api.ErrTypeTree) {
			t.Errorf("P19.2: Check takes %s, but of its first %d nodes it tells %d, %d", told(l), i, n, e)
		}
	}
}

// TestAllOps: each function, aggregation and operation with parts of each type, grouped and with bool.
func TestAllOps(t *testing.T) {
	leaves := []api.Node{number("1"), vector(), ranged()}
	told := map[api.Errno]int{}
	for kind := api.NodeCall; kind <= api.NodeNeg; kind++ {
		for op := -1; op <= 14; op++ {
			for group := range 6 {
				for _, withBool := range []bool{false, true} {
					for parts := range 3 {
						n := api.Node{Kind: kind, Op: op, Group: group, Bool: withBool, Parts: parts}
						for _, left := range leaves {
							for _, right := range leaves {
								_, e := checkIs(t, []api.Node{left, right, n})
								told[e]++
								checkIs(t, []api.Node{right, n})
							}
						}
						checkIs(t, []api.Node{n})
					}
				}
			}
		}
	}
	// two parts: + - * / take four of nine pairs, grouped one; comparisons the same with bool, without it three and one; and, or, unless one, in each of three groups
	if want := 4*(4+1+1) + 6*(4+1+1+3+1+1) + 3*3; told[api.OK] != want {
		t.Errorf("P19.1: %d pairs were taken; want %d", told[api.OK], want)
	}
}

// TestFirstWrong: of several that are wrong the first is told; of one, what the chapter names first.
func TestFirstWrong(t *testing.T) {
	badMatch := api.Node{Kind: api.NodeVector, Match: []api.Matcher{{}}}
	both := api.Node{Kind: api.NodeVector, Match: []api.Matcher{{}}, Width: 1}
	sum := api.Node{Kind: api.NodeAgg, Op: api.AggSum, Parts: 1}
	add := api.Node{Kind: api.NodeBin, Op: api.OpAdd, Parts: 2}
	grouped := add
	grouped.Group, grouped.Names = api.GroupOn, []string{"1"}
	wrong := []struct {
		l []api.Node // behind a vector, its last one is wrong
		e api.Errno
	}{
		{[]api.Node{badMatch}, api.ErrTypeMatch},
		{[]api.Node{both}, api.ErrTypeTree},
		{[]api.Node{number("1"), sum}, api.ErrTypeArg},
		{[]api.Node{ranged(), add}, api.ErrTypeOp},
		{[]api.Node{add}, api.ErrTypeTree},
		{[]api.Node{ranged(), grouped}, api.ErrTypeTree},
		{[]api.Node{{Kind: 9}}, api.ErrTypeTree},
	}
	for _, first := range wrong {
		for _, second := range wrong {
			l := append([]api.Node{vector()}, first.l...)
			at := len(l) - 1
			l = append(append(l, vector()), second.l...)
			if kind, n, e := Check(l); kind != 0 || n != at || e != first.e {
				t.Errorf("P19.1: Check(%s): %d, %d, %d; want %d, %d", told(l), kind, n, e, at, first.e)
			}
			checkIs(t, l)
		}
	}
}

// chain has that many nodes: numbers with additions behind them, a sign behind all, if it needs one more.
func chain(nodes int) []api.Node {
	l := []api.Node{number("1")}
	for len(l)+2 <= nodes {
		l = append(l, number("2"), api.Node{Kind: api.NodeBin, Op: api.OpAdd, Parts: 2})
	}
	if len(l) < nodes {
		l = append(l, api.Node{Kind: api.NodeNeg, Parts: 1})
	}
	return l
}

// TestMany: at most MaxQuery nodes; but what is wrong with one of more is told first.
func TestMany(t *testing.T) {
	for _, n := range []int{1, 2, 4094, 4095, 4096, 4097, 4098, 10000} {
		l := chain(n)
		kind, at, e := Check(l)
		if n <= api.MaxQuery && (kind != api.TypeScalar || at != 0 || e != api.OK) || n > api.MaxQuery && (kind != 0 || at != n || e != api.ErrTypeTree) {
			t.Errorf("P19.1: %d nodes: %d, %d, %d", n, kind, at, e)
		}
		l = append(l, ranged(), api.Node{Kind: api.NodeBin, Op: api.OpAdd, Parts: 2})
		if kind, at, e := Check(l); kind != 0 || at != n+1 || e != api.ErrTypeOp {
			t.Errorf("P19.1: %d nodes and a wrong one: %d, %d, %d", n+1, kind, at, e)
		}
		checkIs(t, l)
		checkIs(t, l[:n+1])
	}
	deep := slices.Repeat([]api.Node{vector()}, 2048)
	for range 2047 {
		deep = append(deep, api.Node{Kind: api.NodeBin, Op: api.OpOr, Parts: 2})
	}
	if kind, _, e := Check(deep); kind != api.TypeVector || e != api.OK {
		t.Errorf("P19.1: a tree whose right parts nest: %d, %d", kind, e)
	}
	checkIs(t, deep[:4094])
	signs := append([]api.Node{vector()}, slices.Repeat([]api.Node{{Kind: api.NodeNeg, Parts: 1}}, 4095)...)
	if kind, _, e := Check(signs); kind != api.TypeVector || e != api.OK {
		t.Errorf("P19.1: 4095 signs: %d, %d", kind, e)
	}
}

// TestSizes: a time that the nodes, names and texts explain.
func TestSizes(t *testing.T) {
	start := time.Now()
	names := slices.Repeat([]string{strings.Repeat("n", 64)}, 100000)
	for i, l := range [][]api.Node{
		chain(300000),
		slices.Repeat([]api.Node{vector()}, 1000000),
		append(slices.Repeat([]api.Node{vector()}, 500000), slices.Repeat([]api.Node{{Kind: api.NodeBin, Op: api.OpAnd, Parts: 2}}, 499999)...),
		{vector(), {Kind: api.NodeAgg, Op: api.AggSum, Group: api.GroupBy, Names: names, Parts: 1}},
		{number(strings.Repeat("1", 1<<24))},
		{{Kind: api.NodeVector, Match: make([]api.Matcher, 1<<20)}},
	} {
		if _, n, e := Check(l); i != 3 && (e == api.OK || n != len(l) && n != 0) || i == 3 && e != api.OK {
			t.Errorf("list %d: %d, %d", i, n, e)
		}
	}
	if took := time.Since(start); took > 10*time.Second {
		t.Errorf("it took %v", took)
	}
}

// TestNothingIsChanged: what is handed in stays, and what lies behind its lists is not read (R3).
func TestNothingIsChanged(t *testing.T) {
	names := []string{"a", "1"}
	matchers := []api.Matcher{{Kind: api.MatchEq, Name: "a"}, {}}
	l := []api.Node{
		{Kind: api.NodeVector, Match: matchers[:1]},
		{Kind: api.NodeNeg, Parts: 1},
		{Kind: api.NodeAgg, Op: api.AggSum, Group: api.GroupBy, Names: names[:1], Parts: 1},
		vector(),
		{Kind: api.NodeBin, Op: api.OpAdd, Parts: 2},
		{Kind: 9},
	}
	before := slices.Clone(l)
	if kind, n, e := Check(l[:5]); kind != api.TypeVector || n != 0 || e != api.OK {
		t.Errorf("R3: %d, %d, %d", kind, n, e)
	}
	if _, n, e := Check(l); n != 5 || e != api.ErrTypeTree {
		t.Errorf("R3: %d, %d", n, e)
	}
	if !reflect.DeepEqual(l, before) || !slices.Equal(names, []string{"a", "1"}) || matchers[1] != (api.Matcher{}) {
		t.Errorf("R3: %s", told(l))
	}
}

// TestQueries: P19.2: what Parse gives is refused, if at all, with ErrTypeArg or ErrTypeOp.
func TestQueries(t *testing.T) {
	r := rand.New(rand.NewPCG(19, 2))
	words := strings.Fields(`x {a="b"} x{a!="b"} x[5m] x[5m] {}[1s] 1 0.5 - - ( ( ) ) + * == > bool and or unless on(a) ignoring() ignoring(a,b) sum( min by (a) ( avg( rate( wave( abs( floor( increase( offset 1h 2147483647s [2147483647s]`)
	seen := map[api.Errno]int{}
	for range 400000 {
		var s []string
		for range 1 + r.IntN(7) {
			s = append(s, words[r.IntN(len(words))])
		}
		text := strings.Join(s, " ")
		text += strings.Repeat(")", max(0, strings.Count(text, "(")-strings.Count(text, ")")))
		queryIs(t, text, seen)
	}
	for _, e := range []api.Errno{api.OK, api.ErrTypeArg, api.ErrTypeOp} {
		if seen[e] < 500 {
			t.Errorf("%d was told %d times", e, seen[e])
		}
	}
}

// queryIs asks Check of a text, if it is a query.
func queryIs(t *testing.T, text string, seen map[api.Errno]int) {
	t.Helper()
	l, _, e := parse.Parse(text)
	if e != api.OK {
		return
	}
	kind, e := checkIs(t, l)
	seen[e]++
	if e != api.OK && e != api.ErrTypeArg && e != api.ErrTypeOp || (e == api.OK) != (kind != 0) {
		t.Errorf("P19.2: %q: %d, %d", text, kind, e)
	}
}

// TestLongQueries: queries of MaxQuery bytes have not too many nodes.
func TestLongQueries(t *testing.T) {
	for _, text := range []string{
		"1" + strings.Repeat("+1", 2047) + " ",
		"{}" + strings.Repeat("/{}", 1364),
		"a" + strings.Repeat("*a", 2047),
		strings.Repeat("-", 64) + "1",
		strings.Repeat("--1+", 1000) + "1",
		"a" + strings.Repeat("==bool 1", 511),
		strings.Repeat("abs(", 64) + "a" + strings.Repeat(")", 64),
	} {
		seen := map[api.Errno]int{}
		queryIs(t, text, seen)
		if seen[api.OK] == 0 {
			t.Errorf("P19.2: %.100q is not taken", text)
		}
	}
}

// typed is a query with its type, made by the chapter's words from smaller ones.
type typed struct {
	text string
	kind int
}

// bigger makes a query that means something out of others.
func bigger(r *rand.Rand, of map[int][]typed) typed {
	pick := func(kind int) string { return of[kind][r.IntN(len(of[kind]))].text }
	const s, v, m = api.TypeScalar, api.TypeVector, api.TypeRange
	switch r.IntN(9) {
	case 0:
		return typed{"rate(" + pick(m) + ")", v}
	case 1:
		return typed{"abs((" + pick(v) + "))", v}
	case 2:
		return typed{"count without (a) (" + pick(v) + ")", v}
	case 3:
		return typed{"-(" + pick(s) + ")", s}
	case 4:
		return typed{"-(" + pick(v) + ")", v}
	case 5:
		return typed{"(" + pick(s) + ") - (" + pick(s) + ")", s}
	case 6:
		return typed{"(" + pick(s) + ") >= (" + pick(v) + ")", v}
	case 7:
		return typed{"(" + pick(v) + ") unless (" + pick(v) + ")", v}
	}
	return typed{"(" + pick(s) + ") != bool (" + pick(s) + ")", s}
}

func TestTyped(t *testing.T) {
	r := rand.New(rand.NewPCG(19, 3))
	for range 300 {
		of := map[int][]typed{
			api.TypeScalar: {{"1", api.TypeScalar}},
			api.TypeVector: {{"x", api.TypeVector}},
			api.TypeRange:  {{"x[1m] offset 1s", api.TypeRange}, {"{}[1d]", api.TypeRange}},
		}
		for range 12 {
			q := bigger(r, of)
			of[q.kind] = append(of[q.kind], q)
			l, _, e := parse.Parse(q.text)
			if e != api.OK {
				continue // it has grown too deep
			}
			if kind, n, e := Check(l); kind != q.kind || n != 0 || e != api.OK {
				t.Errorf("P19.1: %q: %d, %d, %d; want type %d", q.text, kind, n, e, q.kind)
			}
			if len(l) < 200 {
				readOneWay(t, l)
			}
		}
	}
}
