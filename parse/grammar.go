package parse

import (
	"tidewrack/api"
	"tidewrack/match"
	"tidewrack/ops"
	"tidewrack/words"
)

// The levels of the grammar. Each of the upper ones hands on the next one below it, of which its parts are.

func (r *reader) query() []api.Node {
	r.or()
	r.must(r.here().Kind == api.TokEnd)
	return r.nodes
}

func (r *reader) or() {
	r.row(r.and, api.OpOr)
}

func (r *reader) and() {
	r.row(r.comparison, api.OpAnd, api.OpBut)
}

func (r *reader) comparison() {
	r.row(r.sum, api.OpEq, api.OpNe, api.OpLt, api.OpLe, api.OpGt, api.OpGe)
}

func (r *reader) sum() {
	r.row(r.term, api.OpAdd, api.OpSub)
}

func (r *reader) term() {
	r.row(r.unary, api.OpMul, api.OpDiv)
}

// row reads parts with some of those operations between them, of which each takes all that is to its left.
func (r *reader) row(part func(), mayBe ...int) {
	part()
	for {
		n := api.Node{Kind: api.NodeBin, Op: r.takesOne(words.Operations(), mayBe...), Parts: 2}
		if n.Op == 0 {
			return
		}
		n.Bool = ops.IsComparison(n.Op) && r.takes("bool")
		n.Group, n.Names = r.group(api.GroupOn, api.GroupIgnore)
		part()
		r.tell(n)
	}
}

func (r *reader) unary() {
	if !r.is("-") {
		r.one()
		return
	}
	r.nested("-", r.unary)
	r.tell(api.Node{Kind: api.NodeNeg, Parts: 1})
}

// group reads one of those groups and its names, if there is one.
func (r *reader) group(mayBe ...int) (int, []string) {
	group := r.takesOne(words.Groups(), mayBe...)
	if group == api.GroupNone {
		return api.GroupNone, nil
	}
	var labels []string
	r.list("(", func() { labels = append(labels, r.labelName()) }, ")")
	return group, labels
}

func (r *reader) one() {
	switch t := r.here(); {
	case t.Kind == api.TokNumber:
		r.at++
		r.tell(api.Node{Kind: api.NodeNumber, Text: t.Text})
	case r.is("("):
		r.brackets()
	case numberIn(words.Functions(), t) != 0:
		r.call()
	case numberIn(words.Aggregations(), t) != 0:
		r.aggregation()
	default:
		r.selection()
	}
}

func (r *reader) brackets() {
	r.nested("(", r.or)
	r.needs(")")
}

func (r *reader) call() {
	n := api.Node{Kind: api.NodeCall, Op: numberIn(words.Functions(), r.here()), Parts: 1}
	r.at++
	r.brackets()
	r.tell(n)
}

func (r *reader) aggregation() {
	n := api.Node{Kind: api.NodeAgg, Op: numberIn(words.Aggregations(), r.here()), Parts: 1}
	r.at++
	n.Group, n.Names = r.group(api.GroupBy, api.GroupWithout)
	r.brackets()
	r.tell(n)
}

func (r *reader) selection() {
	n := api.Node{Kind: api.NodeVector, Match: r.matchers()}
	if r.takes("[") {
		n.Kind = api.NodeRange
		n.Width = r.span()
		r.needs("]")
	}
	if r.takes("offset") {
		n.Back = r.span()
	}
	r.tell(n)
}

// matchers reads what a select begins with: a word, which asks for a name, or matchers in brackets, or both.
func (r *reader) matchers() []api.Matcher {
	var ms []api.Matcher
	if t := r.here(); t.Kind == api.TokWord && !isKept(t) {
		ms = r.with(ms, api.Matcher{Kind: api.MatchEq, Name: "__name__"})
		if !r.is("{") {
			return ms
		}
	}
	r.list("{", func() { ms = r.with(ms, r.question()) }, "}")
	return ms
}

// question reads a matcher up to the text that it asks for.
func (r *reader) question() api.Matcher {
	m := api.Matcher{Name: r.labelName()}
	m.Kind = numberIn(words.MatchKinds(), r.here())
	r.must(m.Kind != 0)
	r.at++
	r.must(r.here().Kind == api.TokText)
	return m
}

// with puts a matcher behind others, the token here as its Value.
func (r *reader) with(ms []api.Matcher, m api.Matcher) []api.Matcher {
	m.Value = r.here().Text
	ms = append(ms, m)
	if match.Check(ms) != api.OK {
		r.throw(api.ErrParseMatch)
	}
	r.at++
	return ms
}
