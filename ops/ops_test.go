package ops

import (
	"math"
	"testing"

	"tidewrack/api"
)

func TestKinds(t *testing.T) {
	kinds := map[int]struct{ comparison, set bool }{
		api.OpEq: {true, false}, api.OpNe: {true, false}, api.OpLt: {true, false}, api.OpLe: {true, false}, api.OpGt: {true, false}, api.OpGe: {true, false},
		api.OpAnd: {false, true}, api.OpOr: {false, true}, api.OpBut: {false, true},
	}
	for _, op := range []int{math.MinInt, -5, -1, 0, 1, 2, 3, 4, 5, 6, 7, 8, 9, 10, 11, 12, 13, 14, 15, 1 << 32, math.MaxInt} {
		if IsComparison(op) != kinds[op].comparison || IsSet(op) != kinds[op].set {
			t.Errorf("operation %d: %v, %v", op, IsComparison(op), IsSet(op))
		}
	}
}
