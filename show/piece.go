package show

import (
	"tidewrack/api"
	"tidewrack/ops"
)

// Rows of nodes: what stands in a lower row than where it is put needs brackets there.
const (
	rowOr = iota + 1
	rowAnd
	rowComparison
	rowSum
	rowTerm
	rowNeg
	rowOne
)

func rowOf(n api.Node) int {
	switch n.Kind {
	case api.NodeBin:
		return rowOfOp(n.Op)
	case api.NodeNeg:
		return rowNeg
	}
	return rowOne
}

func rowOfOp(op int) int {
	switch {
	case op == api.OpOr:
		return rowOr
	case ops.IsSet(op):
		return rowAnd
	case ops.IsComparison(op):
		return rowComparison
	case op == api.OpAdd || op == api.OpSub:
		return rowSum
	}
	return rowTerm
}

// writer writes something onto a page.
type writer func(p *page)

func (w writer) inBrackets() writer {
	return func(p *page) {
		p.add("(")
		w(p)
		p.add(")")
	}
}

// piece is a node with its parts, yet to be written.
type piece struct {
	row   int
	write writer
}

// from writes a piece where one of that row or a higher one needs no brackets.
func (x piece) from(row int) writer {
	if x.row < row {
		return x.write.inBrackets()
	}
	return x.write
}

// stack has the pieces that are no part of another one yet, the last node's on top.
type stack []piece

// take puts a node in the place of its parts.
func (s *stack) take(n api.Node) {
	below := len(*s) - n.Parts
	write := writerOf(n, (*s)[below:])
	*s = append((*s)[:below], piece{rowOf(n), write})
}
