// Package order asks lists whether they are in order: what several layers need of their numbers.
package order

import "cmp"

// Rising asks whether each is above the one ahead.
func Rising[T cmp.Ordered](list []T) bool {
	for i := range list {
		if i > 0 && list[i-1] >= list[i] {
			return false
		}
	}
	return true
}
