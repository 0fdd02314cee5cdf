package parse

import (
	"slices"

	"tidewrack/api"
	"tidewrack/names"
)

// reader stands at a token of a query, and has the nodes of what it has read. Its methods read what stands there and go on behind it, or throw what is wrong, so that nobody need ask whether they could.
type reader struct {
	tokens []api.Token // the last one is the end, and is never gone past
	at     int
	open   int // how many brackets and signs it stands in that nest
	nodes  []api.Node
}

// fault is what a reader throws: what is wrong, and where.
type fault struct {
	place int
	e     api.Errno
}

// caught tells what is read, or what was thrown. A panic that no reader threw is a fault of the program: it isn't to pass for one of the query.
func caught(read func() []api.Node) (nodes []api.Node, place int, e api.Errno) {
	defer func() {
		switch thrown := recover().(type) {
		case nil:
		case fault:
			place, e = thrown.place, thrown.e
		default:
			panic(thrown)
		}
	}()
	return read(), 0, api.OK
}

func (r *reader) throw(e api.Errno) {
	panic(fault{r.here().At, e})
}

// must throws, if reading can't go on at the token here.
func (r *reader) must(goesOn bool) {
	switch {
	case goesOn:
	case r.here().Kind == api.TokEnd:
		r.throw(api.ErrParseEnd)
	default:
		r.throw(api.ErrParseToken)
	}
}

func (r *reader) tell(n api.Node) {
	r.nodes = append(r.nodes, n)
}

func (r *reader) here() api.Token {
	return r.tokens[r.at]
}

func (r *reader) is(text string) bool {
	return hasMeaning(r.here()) && r.here().Text == text
}

func (r *reader) takes(text string) bool {
	if !r.is(text) {
		return false
	}
	r.at++
	return true
}

func (r *reader) needs(text string) {
	r.must(r.takes(text))
}

// takesOne goes past a word or sign of a row, if its number is one of those that may be here; else it tells 0.
func (r *reader) takesOne(row []string, mayBe ...int) int {
	number := numberIn(row, r.here())
	if !slices.Contains(mayBe, number) {
		return 0
	}
	r.at++
	return number
}

func (r *reader) token(kind int) api.Token {
	t := r.here()
	r.must(t.Kind == kind)
	r.at++
	return t
}

func (r *reader) labelName() string {
	t := r.here()
	r.must(t.Kind == api.TokWord && names.OfLabel(t.Text))
	r.at++
	return t.Text
}

func (r *reader) span() int64 {
	return r.token(api.TokSpan).Span
}

// list reads any number of items between two signs, with commas between them.
func (r *reader) list(opens string, item func(), closes string) {
	r.needs(opens)
	if r.takes(closes) {
		return
	}
	item()
	for r.takes(",") {
		item()
	}
	r.needs(closes)
}

// nested reads what stands behind a sign of which MaxNest may be open.
func (r *reader) nested(sign string, part func()) {
	r.must(r.is(sign))
	if r.open == api.MaxNest {
		r.throw(api.ErrParseDeep)
	}
	r.at++
	r.open++
	part()
	r.open--
}
