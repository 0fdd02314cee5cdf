package types

import (
	"tidewrack/api"
	"tidewrack/ops"
)

// whole is a node with its parts.
type whole struct {
	api.Node
	parts []part
}

// wants tells what must be so of its parts.
func (w whole) wants() func() bool {
	switch w.Kind {
	case api.NodeCall:
		if w.Op == api.FuncAbs || w.Op == api.FuncFloor {
			return w.areVectors
		}
		return w.areRanges
	case api.NodeAgg:
		return w.areVectors
	case api.NodeBin:
		return w.wantsOfBoth()
	}
	return w.areFloats
}

func (w whole) wantsOfBoth() func() bool {
	switch {
	case ops.IsSet(w.Op) || w.Group != api.GroupNone:
		return w.areVectors
	case ops.IsComparison(w.Op) && !w.Bool:
		return w.areFloatsOfSome
	}
	return w.areFloats
}

func (w whole) areVectors() bool {
	return w.count(api.TypeVector) == w.Parts
}

func (w whole) areRanges() bool {
	return w.count(api.TypeRange) == w.Parts
}

// areFloats asks whether all are scalars or vectors.
func (w whole) areFloats() bool {
	return w.count(api.TypeRange) == 0
}

// areFloatsOfSome asks so, too, and whether there is a vector to take elements from.
func (w whole) areFloatsOfSome() bool {
	return w.areFloats() && w.hasVector()
}

func (w whole) hasVector() bool {
	return w.count(api.TypeVector) > 0
}

// count tells how many of its parts are of a type.
func (w whole) count(kind int) int {
	n := 0
	for _, p := range w.parts {
		if p.kind == kind {
			n++
		}
	}
	return n
}

// kind is its own type, if its parts are as it wants them.
func (w whole) kind() int {
	switch w.Kind {
	case api.NodeNumber:
		return api.TypeScalar
	case api.NodeRange:
		return api.TypeRange
	case api.NodeNeg, api.NodeBin:
		if !w.hasVector() {
			return api.TypeScalar
		}
	}
	return api.TypeVector
}

// refusal is what is wrong, if its parts are not as it wants them.
func (w whole) refusal() api.Errno {
	if w.Kind == api.NodeBin {
		return api.ErrTypeOp
	}
	return api.ErrTypeArg
}
