package double

import (
	"math"
	"testing"
)

// TestEachExponent: each exponent with no bit of the fraction, with each one alone, and with all, on both sides of 0.
func TestEachExponent(t *testing.T) {
	fractions := []uint64{0, 1<<52 - 1}
	for i := range 52 {
		fractions = append(fractions, 1<<i)
	}
	for exponent := range uint64(2048) {
		for _, fraction := range fractions {
			for _, sign := range []uint64{0, Sign} {
				v := sign | exponent<<52 | fraction
				if IsNumber(v) == math.IsNaN(math.Float64frombits(v)) {
					t.Errorf("IsNumber(%x): %v", v, IsNumber(v))
				}
			}
		}
	}
	if Sign != math.Float64bits(math.Copysign(0, -1)) {
		t.Errorf("Sign: %x", uint64(Sign))
	}
}
