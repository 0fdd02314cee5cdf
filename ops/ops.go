// Package ops asks binary operations of what kind they are: what several layers need of their numbers.
package ops

import "tidewrack/api"

// IsComparison asks whether an operation holds or does not hold.
func IsComparison(op int) bool {
	return api.OpEq <= op && op <= api.OpGe
}

// IsSet asks whether an operation is one of sets: which elements are there, whatever their floats.
func IsSet(op int) bool {
	return api.OpAnd <= op && op <= api.OpBut
}
