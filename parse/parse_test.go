package parse

import (
	"testing"

	"tidewrack/api"
)

func TestExamples(t *testing.T) {
	vector := func(name string) api.Node {
		return api.Node{Kind: api.NodeVector, Match: []api.Matcher{{Kind: api.MatchEq, Name: "__name__", Value: name}}}
	}
	ranged := vector("x")
	ranged.Kind, ranged.Width = api.NodeRange, 300
	back := vector("a")
	back.Back = 3600
	for s, want := range map[string][]api.Node{
		"sum by (a) (rate(x[5m])) / 2": {
			ranged,
			{Kind: api.NodeCall, Op: api.FuncRate, Parts: 1},
			{Kind: api.NodeAgg, Op: api.AggSum, Group: api.GroupBy, Names: []string{"a"}, Parts: 1},
			{Kind: api.NodeNumber, Text: "2"},
			{Kind: api.NodeBin, Op: api.OpDiv, Parts: 2},
		},
		"-a + b":      {vector("a"), {Kind: api.NodeNeg, Parts: 1}, vector("b"), {Kind: api.NodeBin, Op: api.OpAdd, Parts: 2}},
		"a offset 1h": {back},
		`{a!="b"}`:    {{Kind: api.NodeVector, Match: []api.Matcher{{Kind: api.MatchNe, Name: "a", Value: "b"}}}},
	} {
		if l, at, e := Parse(s); !same(l, want) || at != 0 || e != api.OK {
			t.Errorf("P18.1: Parse(%q): %s", s, told(l, at, e))
		}
		parseIs(t, s)
	}
	for s, want := range map[string]struct {
		at int
		e  api.Errno
	}{
		"":       {0, api.ErrParseEnd},
		"sum":    {3, api.ErrParseEnd},
		"x{":     {2, api.ErrParseEnd},
		"x[5]":   {2, api.ErrParseToken},
		"x x":    {2, api.ErrParseToken},
		"rate":   {4, api.ErrParseEnd},
		"x{a=b}": {4, api.ErrParseToken},
	} {
		faultIs(t, s, want.at, want.e)
	}
}
