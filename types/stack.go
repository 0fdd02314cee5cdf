package types

import (
	"tidewrack/api"
	"tidewrack/match"
)

// part is a node that has not found the one whose part it is yet.
type part struct {
	kind int // its type's number
}

// stack has the parts that are left, the last node's on top.
type stack []part

// take puts a node in the place of its parts.
func (s *stack) take(n api.Node) api.Errno {
	if !hasForm(n) || n.Parts > len(*s) {
		return api.ErrTypeTree
	}
	if match.Check(n.Match) != api.OK {
		return api.ErrTypeMatch
	}
	below := len(*s) - n.Parts
	w := whole{n, (*s)[below:]}
	if wanted := w.wants(); !wanted() {
		return w.refusal()
	}
	*s = append((*s)[:below], part{w.kind()})
	return api.OK
}
