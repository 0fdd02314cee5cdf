package show

import (
	"math/rand/v2"
	"slices"
	"strings"
	"testing"

	"tidewrack/api"
	"tidewrack/parse"
	"tidewrack/types"
)

func num(text string) api.Node {
	return api.Node{Kind: api.NodeNumber, Text: text}
}

func vector(ms ...api.Matcher) api.Node {
	return api.Node{Kind: api.NodeVector, Match: ms}
}

func named(name string) api.Node {
	return vector(api.Matcher{Kind: api.MatchEq, Name: "__name__", Value: name})
}

func neg() api.Node {
	return api.Node{Kind: api.NodeNeg, Parts: 1}
}

func fun(op int) api.Node {
	return api.Node{Kind: api.NodeCall, Op: op, Parts: 1}
}

func agg(op int) api.Node {
	return api.Node{Kind: api.NodeAgg, Op: op, Parts: 1}
}

func bin(op int) api.Node {
	return api.Node{Kind: api.NodeBin, Op: op, Parts: 2}
}

func grouped(n api.Node, group int, names ...string) api.Node {
	n.Group, n.Names = group, names
	return n
}

// TestAllSmallTrees: all trees of up to six pieces; of trees that differ two texts.
func TestAllSmallTrees(t *testing.T) {
	boolean := bin(api.OpLe)
	boolean.Bool = true
	pieces := []api.Node{
		num("1"), named("x"), vector(), {Kind: api.NodeRange, Width: 60},
		neg(), fun(api.FuncAbs), fun(api.FuncRate), agg(api.AggSum), grouped(agg(api.AggSum), api.GroupBy),
		bin(api.OpOr), bin(api.OpAnd), bin(api.OpEq), boolean, bin(api.OpSub), bin(api.OpMul), grouped(bin(api.OpDiv), api.GroupOn, "a"),
	}
	trees := map[string]string{}
	wrong := 0
	var each func(l []api.Node)
	each = func(l []api.Node) {
		_, at, e := types.Check(l)
		if e != api.OK && at < len(l) {
			wrong++
			if wrong%10 == 0 {
				refusedIs(t, l)
			}
			return
		}
		s, e := showIs(t, l)
		if e == api.OK {
			if other, ok := trees[s]; ok {
				t.Errorf("P20.2: %s and %s are both %q", other, told(l), s)
			}
			trees[s] = told(l)
		}
		if len(l) < 6 {
			for _, n := range pieces {
				each(append(l[:len(l):len(l)], n))
			}
		}
	}
	each(nil)
	if len(trees) < 20000 {
		t.Errorf("%d trees were written", len(trees))
	}
}

// TestRows: every two operations, as left and as right parts, with signs, brackets and calls between them, and every three.
func TestRows(t *testing.T) {
	x, y, z := named("x"), named("y"), named("z")
	for a := api.OpAdd; a <= api.OpBut; a++ {
		for b := api.OpAdd; b <= api.OpBut; b++ {
			for _, between := range [][]api.Node{nil, {neg()}, {neg(), neg()}, {fun(api.FuncAbs)}, {agg(api.AggMax)}, {grouped(agg(api.AggMin), api.GroupWithout, "a")}} {
				showIs(t, slices.Concat([]api.Node{x, y, bin(a)}, between, []api.Node{z, bin(b)}))
				showIs(t, slices.Concat([]api.Node{x, y, z, bin(a)}, between, []api.Node{bin(b)}))
				showIs(t, slices.Concat([]api.Node{x}, between, []api.Node{y}, between, []api.Node{bin(a)}, between, []api.Node{z}, between, []api.Node{bin(b)}, between))
			}
			for _, group := range []api.Node{grouped(bin(b), api.GroupOn), grouped(bin(b), api.GroupIgnore, "a", "b")} {
				showIs(t, []api.Node{x, y, bin(a), z, group})
				showIs(t, []api.Node{x, y, z, bin(a), group})
				showIs(t, []api.Node{x, y, z, group, bin(a)})
			}
			for c := api.OpAdd; c <= api.OpBut; c++ {
				showIs(t, []api.Node{x, y, bin(a), z, bin(b), x, bin(c)})
				showIs(t, []api.Node{x, y, z, bin(a), bin(b), x, bin(c)})
				showIs(t, []api.Node{x, y, bin(a), z, x, bin(b), bin(c)})
				showIs(t, []api.Node{x, y, z, bin(a), x, bin(b), bin(c)})
				showIs(t, []api.Node{x, y, z, x, bin(a), bin(b), bin(c)})
			}
		}
	}
}

// TestScalars: every two operations of numbers, which compare with bool alone.
func TestScalars(t *testing.T) {
	scalar := func(op int) api.Node {
		n := bin(op)
		n.Bool = op >= api.OpEq
		return n
	}
	for a := api.OpAdd; a <= api.OpGe; a++ {
		for b := api.OpAdd; b <= api.OpGe; b++ {
			for _, l := range [][]api.Node{
				{num("1"), num("2.50"), scalar(a), num("0"), scalar(b)},
				{num("1"), num("2.50"), num("0"), scalar(a), scalar(b)},
				{num("1"), neg(), num("2"), neg(), scalar(a), neg(), named("x"), scalar(b)},
				{named("x"), num("2"), num("0.0"), scalar(a), neg(), scalar(b)},
			} {
				if _, e := showIs(t, l); e != api.OK {
					t.Errorf("P20.1: %s: %d", told(l), e)
				}
			}
		}
	}
}

// grown is a tree by chance of about so many nodes, of that type.
func grown(r *rand.Rand, kind, nodes int) []api.Node {
	if kind == api.TypeRange {
		return []api.Node{selected(r, api.NodeRange)}
	}
	if nodes <= 1 && kind == api.TypeScalar {
		return []api.Node{num([]string{"0", "1", "2.50", "0.0", "123456789012345", "99.01"}[r.IntN(6)])}
	}
	if nodes <= 1 {
		return []api.Node{selected(r, api.NodeVector)}
	}
	switch sort := r.IntN(8); {
	case sort == 0:
		return append(grown(r, kind, nodes-1), neg())
	case sort == 1 && kind == api.TypeVector:
		return append(grown(r, api.TypeRange, 1), fun(1+r.IntN(10)))
	case sort == 2 && kind == api.TypeVector:
		return append(grown(r, kind, nodes-1), fun(11+r.IntN(2)))
	case sort == 3 && kind == api.TypeVector:
		n := agg(1 + r.IntN(5))
		if n.Group = r.IntN(3); n.Group != 0 {
			n.Names = someNames(r)
		}
		return append(grown(r, kind, nodes-1), n)
	}
	return joined(r, kind, nodes)
}

// joined is a tree by chance whose last node is an operation.
func joined(r *rand.Rand, kind, nodes int) []api.Node {
	left, right := kind, kind
	n := bin(1 + r.IntN(10))
	switch {
	case kind == api.TypeScalar:
		n.Bool = n.Op >= api.OpEq
	case r.IntN(3) == 0:
		left = api.TypeScalar
	case r.IntN(3) == 0:
		right = api.TypeScalar
	default:
		n.Op = 1 + r.IntN(13)
		if n.Group = 2 + r.IntN(3); n.Group == 2 {
			n.Group = 0
		} else {
			n.Names = someNames(r)
		}
	}
	if kind == api.TypeVector && n.Op >= api.OpEq && n.Op <= api.OpGe {
		n.Bool = r.IntN(2) == 0
	}
	part := 1 + r.IntN(nodes)
	return slices.Concat(grown(r, left, part), grown(r, right, nodes-part), []api.Node{n})
}

func someNames(r *rand.Rand) []string {
	var out []string
	for range r.IntN(4) {
		out = append(out, []string{"a", "b_1", "or", "__name__", "by"}[r.IntN(5)])
	}
	return out
}

func selected(r *rand.Rand, kind int) api.Node {
	n := api.Node{Kind: kind}
	for range r.IntN(4) {
		n.Match = append(n.Match, api.Matcher{
			Kind:  []int{1, 1, 2, 3, 4}[r.IntN(5)],
			Name:  []string{"__name__", "__name__", "__name__", "a", "or"}[r.IntN(5)],
			Value: []string{"x", "x:y", "or", "sum", "", "5m", "a b", `"\`, "\n", "é\xff", "-(-("}[r.IntN(11)],
		})
	}
	if kind == api.NodeRange {
		n.Width = someSpan(r)
	}
	if r.IntN(3) == 0 {
		n.Back = someSpan(r)
	}
	return n
}

func someSpan(r *rand.Rand) int64 {
	unit := []int64{1, 60, 3600, 86400}[r.IntN(4)]
	return unit * (1 + r.Int64N((1<<31-1)/unit))
}

// TestChance: trees by chance, small ones and ones that may be too long or too deep.
func TestChance(t *testing.T) {
	r := rand.New(rand.NewPCG(20, 1))
	seen := map[api.Errno]int{}
	for i := range 6000 {
		most := 60
		if i%12 == 0 {
			most = 1000
		}
		l := grown(r, 1+i%3, 1+r.IntN(most))
		if _, _, e := types.Check(l); e != api.OK {
			t.Fatalf("Check(%s): %d", told(l), e)
		}
		_, e := showIs(t, l)
		seen[e]++
	}
	if seen[api.OK] < 5000 || seen[api.ErrShowTree] < 50 {
		t.Errorf("%v", seen)
	}
}

// TestQueries: texts by chance; what is read of them, and means something, is written, and read as the same tree.
func TestQueries(t *testing.T) {
	r := rand.New(rand.NewPCG(20, 2))
	words := strings.Fields(`x {a="b"} x{a!="b"} {__name__="x"} {__name__="by"} x[5m] x[300s] {}[1s] 1 0.5 - - ( ( ) ) + * == > bool and or unless on(a) ignoring() ignoring(a,b) sum( min by (a) ( avg( rate( wave( abs( floor( increase( offset 1h 2147483647s [2147483647s]`)
	shown := 0
	for range 300000 {
		var s []string
		for range 1 + r.IntN(8) {
			s = append(s, words[r.IntN(len(words))])
		}
		text := strings.Join(s, " ")
		text += strings.Repeat(")", max(0, strings.Count(text, "(")-strings.Count(text, ")")))
		l, _, e := parse.Parse(text)
		if e != api.OK {
			continue
		}
		if _, e := showIs(t, l); e == api.OK {
			shown++
		}
	}
	if shown < 2000 {
		t.Errorf("%d queries were written", shown)
	}
}
