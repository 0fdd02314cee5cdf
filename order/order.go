// Package order asks lists whether they are in order: what several layers need of their numbers.
package order

import "cmp"

// Rising asks whether each is above the one ahead.
func Rising[T cmp.Ordered](list []T) bool {
	for i := range list {
		if i > 0 && list[i-1] >= list[i] {
			return false
		}
	}
	return true
}

// Union has what one of two lists has, which rise, each once, rising.
func Union[T cmp.Ordered](a, b []T) []T {
	out := make([]T, 0, len(a)+len(b))
	for len(a) > 0 && len(b) > 0 {
		least := min(a[0], b[0])
		out = append(out, least)
		a, b = behind(a, least), behind(b, least)
	}
	return append(append(out, a...), b...)
}

// behind has what stands behind x in a list that may begin with it.
func behind[T cmp.Ordered](list []T, x T) []T {
	if list[0] == x {
		return list[1:]
	}
	return list
}
