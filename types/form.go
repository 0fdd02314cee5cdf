package types

import (
	"slices"

	"tidewrack/api"
	"tidewrack/names"
	"tidewrack/numeral"
	"tidewrack/ops"
)

// far is how many seconds a select may ask for, or go back.
const far = 1<<31 - 1

// span is some numbers, from one to another. One of zeros has just 0.
type span struct {
	least int64
	most  int64
}

func (s span) has(n int64) bool {
	return s.least <= n && n <= s.most
}

// form is what the fields of a node may be: of what it says nothing they are zero.
type form struct {
	number  bool // so is Text
	asks    bool // there is a Match, of which more is asked later
	compare bool // Bool may be, if Op compares
	ops     span
	widths  span
	backs   span
	groups  span // GroupNone may be beside them
	parts   int
}

// formOf tells no form of a kind that is none.
func formOf(kind int) (form, bool) {
	switch kind {
	case api.NodeNumber:
		return form{number: true}, true
	case api.NodeVector:
		return form{asks: true, backs: span{0, far}}, true
	case api.NodeRange:
		return form{asks: true, backs: span{0, far}, widths: span{1, far}}, true
	case api.NodeCall:
		return form{ops: span{api.FuncRate, api.FuncFloor}, parts: 1}, true
	case api.NodeAgg:
		return form{ops: span{api.AggSum, api.AggCount}, groups: span{api.GroupBy, api.GroupWithout}, parts: 1}, true
	case api.NodeBin:
		return form{ops: span{api.OpAdd, api.OpBut}, groups: span{api.GroupOn, api.GroupIgnore}, compare: true, parts: 2}, true
	case api.NodeNeg:
		return form{parts: 1}, true
	}
	return form{}, false
}

// hasForm asks whether a node is a form, whatever its Match may ask.
func hasForm(n api.Node) bool {
	f, ok := formOf(n.Kind)
	return ok &&
		f.ops.has(int64(n.Op)) &&
		f.takesText(n.Text) &&
		(f.asks || len(n.Match) == 0) &&
		f.widths.has(n.Width) &&
		f.backs.has(n.Back) &&
		f.takesGroup(n.Group, n.Names) &&
		(!n.Bool || f.compare && ops.IsComparison(n.Op)) &&
		n.Parts == f.parts
}

func (f form) takesText(s string) bool {
	if f.number {
		return numeral.Is(s)
	}
	return s == ""
}

func (f form) takesGroup(group int, labels []string) bool {
	if group == api.GroupNone {
		return len(labels) == 0
	}
	return f.groups.has(int64(group)) && !slices.ContainsFunc(labels, isNoName)
}

func isNoName(s string) bool {
	return !names.OfLabel(s)
}
