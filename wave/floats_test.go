package wave

import (
	"math"
	"math/big"
	"math/rand/v2"
	"regexp"
	"strings"
	"testing"
	"time"

	"tidewrack/api"
)

// TestEachExponent: each exponent with no bit of the fraction, with each one alone, and with all, on both sides of 0.
func TestEachExponent(t *testing.T) {
	fractions := []uint64{0, 1<<52 - 1}
	for i := range 52 {
		fractions = append(fractions, 1<<i)
	}
	for exponent := range uint64(2048) {
		for _, fraction := range fractions {
			for _, sign := range []uint64{0, below} {
				v := sign | exponent<<52 | fraction
				normal := v
				if isNaN(v) {
					normal = nan
				}
				if got := Normal(v); got != normal {
					t.Errorf("P21.1: Normal(%x): %x", v, got)
				}
				if got := Abs(v); got != normal&^below {
					t.Errorf("P21.1: Abs(%x): %x", v, got)
				}
				if got, want := Floor(v), floorModel(v); got != want {
					t.Errorf("P21.1: Floor(%x): %x; want %x", v, got, want)
				}
			}
		}
	}
}

func TestFloor(t *testing.T) {
	r := rand.New(rand.NewPCG(21, 1))
	for range 200000 {
		v := chance(r)
		if got, want := Floor(v), floorModel(v); got != want {
			t.Errorf("P21.1: Floor(%x): %x; want %x", v, got, want)
		}
	}
	for x, want := range map[float64]float64{0.5: 0, -0.5: -1, 1: 1, -1: -1, 2.99: 2, -2.99: -3, 1e300: 1e300, -4503599627370495.5: -4503599627370496} {
		if got := Floor(f(x)); got != f(want) {
			t.Errorf("P21.1: Floor of %v: %x", x, got)
		}
	}
}

var numberForm = regexp.MustCompile(`\A(0|[1-9][0-9]*)(\.[0-9]+)?\z`)

// numberModel reads a text as a fraction.
func numberModel(s string) (uint64, bool) {
	if !numberForm.MatchString(s) || len(strings.ReplaceAll(s, ".", "")) > 15 {
		return 0, false
	}
	x, _ := new(big.Rat).SetString(s)
	return rounded(x, 0), true
}

func numberIs(t *testing.T, s string) {
	t.Helper()
	want, is := numberModel(s)
	if got, ok := Number(s); got != want || ok != is {
		t.Errorf("P21.1: Number(%.40q): %x, %v; want %x, %v", s, got, ok, want, is)
	}
}

// TestShortNumbers: all short texts of bytes that numbers are written with, in other languages, too.
func TestShortNumbers(t *testing.T) {
	texts := []string{""}
	for range 5 {
		var longer []string
		for _, s := range texts {
			numberIs(t, s)
			for _, c := range "0129.e-_x" {
				longer = append(longer, s+string(c))
			}
		}
		texts = longer
	}
	for c := range 256 {
		for _, s := range []string{"", "0", "7", "0.", "1.5"} {
			numberIs(t, s+string([]byte{byte(c)}))
			numberIs(t, string([]byte{byte(c)})+s)
			numberIs(t, s+string([]byte{byte(c)})+"5")
		}
	}
	for _, s := range []string{"Inf", "inf", "NaN", "nan", "Infinity", "0x1p3", "0b1", "0o7", "1_000", "1e10", "1E5", "+1", "-1", " 1", "1 ", "1\n", "1\x00", "1,5", "٣", "１", "½", "5m", "1.5.2", "..", strings.Repeat("9", 1<<20), "0." + strings.Repeat("0", 1<<20)} {
		if got, ok := Number(s); got != 0 || ok {
			t.Errorf("P21.1: Number(%.40q): %x, %v", s, got, ok)
		}
	}
}

// TestNumberDigits: so many digits, with the point at each place.
func TestNumberDigits(t *testing.T) {
	r := rand.New(rand.NewPCG(21, 2))
	for range 3000 {
		for n := 1; n <= 17; n++ {
			digits := make([]byte, n)
			for i := range digits {
				digits[i] = '0' + byte(r.IntN(10))
			}
			if digits[0] == '0' && r.IntN(4) > 0 {
				digits[0] = '1'
			}
			s := string(digits)
			numberIs(t, s)
			at := r.IntN(n + 1)
			numberIs(t, s[:at]+"."+s[at:])
			numberIs(t, "0."+s)
		}
	}
	for s, want := range map[string]uint64{"0.1": 0x3fb999999999999a, "0.0": 0, "999999999999999": f(999999999999999), "0.00000000000001": f(1e-14), "0.99999999999999": f(0.99999999999999), "2.50": f(2.5)} {
		if got, ok := Number(s); got != want || !ok {
			t.Errorf("P21.1: Number(%s): %x, %v", s, got, ok)
		}
	}
}

// operations are all there are, and numbers beside them.
func operations() []int {
	out := []int{math.MinInt, -1 << 32, math.MaxInt, 1 << 32, 1<<32 + 1, 1<<32 + 5, 1 << 8, 1<<8 + 1, 1<<8 + 6}
	for op := -20; op < 40; op++ {
		out = append(out, op)
	}
	return out
}

func operationsAre(t *testing.T, op int, a, b uint64) {
	t.Helper()
	want, is := arithModel(op, a, b)
	if got, ok := Arith(op, a, b); got != want || ok != is {
		t.Errorf("P21.1: Arith(%d, %x, %x): %x, %v; want %x, %v", op, a, b, got, ok, want, is)
	}
	says, is := compareModel(op, a, b)
	if got, ok := Compare(op, a, b); got != says || ok != is {
		t.Errorf("P21.1: Compare(%d, %x, %x): %v, %v; want %v, %v", op, a, b, got, ok, says, is)
	}
}

func TestOperations(t *testing.T) {
	for _, op := range operations() {
		for _, a := range edges() {
			for _, b := range edges() {
				operationsAre(t, op, a, b)
			}
		}
	}
	r := rand.New(rand.NewPCG(21, 3))
	for range 50000 {
		a, b := chance(r), chance(r)
		if r.IntN(4) == 0 { // close by, so that little is left
			b = a + uint64(r.IntN(5)) - 2
		}
		for op := 1; op <= 10; op++ {
			operationsAre(t, op, a, b)
			operationsAre(t, op, a, b^below)
		}
	}
}

func TestOperationsByHand(t *testing.T) {
	for _, x := range []struct {
		op   int
		a, b float64
		want uint64
	}{
		{api.OpAdd, 0.1, 0.2, 0x3fd3333333333334},
		{api.OpSub, 0.3, 0.1, 0x3fc9999999999999},
		{api.OpMul, 0.1, 3, 0x3fd3333333333334},
		{api.OpDiv, 1, 3, 0x3fd5555555555555},
		{api.OpSub, 1, 1, 0},
		{api.OpAdd, math.Copysign(0, -1), math.Copysign(0, -1), below},
		{api.OpMul, 0, -1, below},
		{api.OpDiv, 1, math.Copysign(0, -1), below | infinity},
		{api.OpDiv, -1, 0, below | infinity},
		{api.OpDiv, 0, 0, api.NaN},
		{api.OpMul, math.MaxFloat64, 2, infinity},
		{api.OpMul, 5e-324, 0.5, 0},
		{api.OpDiv, 5e-324, -2, below},
	} {
		if got, ok := Arith(x.op, f(x.a), f(x.b)); got != x.want || !ok {
			t.Errorf("P21.1: Arith(%d, %v, %v): %x, %v; want %x", x.op, x.a, x.b, got, ok, x.want)
		}
	}
	for op, want := range map[int][3]bool{ // 1 and 2, 2 and 2, NaN and NaN
		api.OpEq: {false, true, false}, api.OpNe: {true, false, true}, api.OpLt: {true, false, false},
		api.OpLe: {true, true, false}, api.OpGt: {false, false, false}, api.OpGe: {false, true, false},
	} {
		for i, pair := range [3][2]uint64{{f(1), f(2)}, {f(2), f(2)}, {api.Stale, api.Stale}} {
			if got, ok := Compare(op, pair[0], pair[1]); got != want[i] || !ok {
				t.Errorf("P21.1: Compare(%d) of pair %d: %v, %v", op, i, got, ok)
			}
		}
	}
}

func TestManyCalls(t *testing.T) {
	start := time.Now()
	for i := range uint64(1000000) {
		Normal(i)
		Arith(int(i%5), i<<44, i)
		Compare(int(i%11), i<<44, i)
		Floor(i << 44)
		Number("123456789.012345")
	}
	if took := time.Since(start); took > 5*time.Second {
		t.Errorf("R1: took %v", took)
	}
}
