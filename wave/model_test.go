package wave

import (
	"math"
	"math/big"
	"math/rand/v2"

	"tidewrack/api"
)

// What chapter 21 says, by great numbers: a result is a fraction, and rounded once. Of what is none (infinities, noughts' signs, NaN) the model has its own rules.

const (
	infinity = 0x7ff0000000000000
	below    = 1 << 63
	nan      = 0x7ff8000000000000
)

func f(x float64) uint64 { return math.Float64bits(x) }

func isNaN(v uint64) bool  { return v<<1 > infinity<<1 }
func isInf(v uint64) bool  { return v<<1 == infinity<<1 }
func isZero(v uint64) bool { return v<<1 == 0 }

// fraction is what finite bits say.
func fraction(v uint64) *big.Rat {
	exponent := int(v >> 52 & 2047)
	digits := new(big.Int).SetUint64(v & (1<<52 - 1))
	if exponent > 0 {
		digits.SetBit(digits, 52, 1)
	} else {
		exponent = 1
	}
	if v >= below {
		digits.Neg(digits)
	}
	x := new(big.Rat).SetInt(digits)
	power := new(big.Rat).SetInt(new(big.Int).Lsh(big.NewInt(1), uint(max(exponent-1075, 1075-exponent))))
	if exponent < 1075 {
		return x.Quo(x, power)
	}
	return x.Mul(x, power)
}

// rounded are the bits of the float nearest to a fraction; sign is the one of a result that is, or comes to, nought.
func rounded(x *big.Rat, sign uint64) uint64 {
	if x.Sign() == 0 {
		return sign
	}
	y, _ := x.Float64() // ties to even; above all floats an infinity
	if y == 0 {
		return sign
	}
	return f(y)
}

func addModel(a, b uint64) uint64 {
	switch {
	case isNaN(a) || isNaN(b) || isInf(a) && isInf(b) && a != b:
		return nan
	case isInf(a):
		return a
	case isInf(b):
		return b
	}
	return rounded(new(big.Rat).Add(fraction(a), fraction(b)), a&b&below)
}

func mulModel(a, b uint64) uint64 {
	sign := (a ^ b) & below
	switch {
	case isNaN(a) || isNaN(b) || isInf(a) && isZero(b) || isZero(a) && isInf(b):
		return nan
	case isInf(a) || isInf(b):
		return sign | infinity
	}
	return rounded(new(big.Rat).Mul(fraction(a), fraction(b)), sign)
}

func divModel(a, b uint64) uint64 {
	sign := (a ^ b) & below
	switch {
	case isNaN(a) || isNaN(b) || isInf(a) && isInf(b) || isZero(a) && isZero(b):
		return nan
	case isInf(a) || isZero(b):
		return sign | infinity
	case isInf(b):
		return sign
	}
	return rounded(new(big.Rat).Quo(fraction(a), fraction(b)), sign)
}

func arithModel(op int, a, b uint64) (uint64, bool) {
	switch op {
	case 1:
		return addModel(a, b), true
	case 2:
		if isNaN(b) {
			return nan, true
		}
		return addModel(a, b^below), true
	case 3:
		return mulModel(a, b), true
	case 4:
		return divModel(a, b), true
	}
	return 0, false
}

// place of a number among all numbers: that of the noughts is 0.
func place(v uint64) int64 {
	if v >= below {
		return -int64(v ^ below)
	}
	return int64(v)
}

func compareModel(op int, a, b uint64) (bool, bool) {
	if op < 5 || op > 10 {
		return false, false
	}
	if isNaN(a) || isNaN(b) {
		return op == 6, true
	}
	x, y := place(a), place(b)
	return map[int]bool{5: x == y, 6: x != y, 7: x < y, 8: x <= y, 9: x > y, 10: x >= y}[op], true
}

// floorModel takes the bits below a float's point away, and of one below 0 that had some, goes one further.
func floorModel(v uint64) uint64 {
	switch {
	case isNaN(v):
		return nan
	case isInf(v) || isZero(v):
		return v
	}
	x := fraction(v)
	whole := new(big.Int).Div(x.Num(), x.Denom()) // Euclid's: with a denominator above 0 it goes down
	return rounded(new(big.Rat).SetInt(whole), 0)
}

// near is the float of a twiddle's part that a cosine comes close to.
func near(x float64) uint64 {
	const c = 0x3fe6a09e667f3bcd
	switch {
	case x > 0.9:
		return f(1)
	case x > 0.5:
		return c
	case x > -0.5:
		return 0
	case x > -0.9:
		return below | c
	}
	return below | f(1)
}

func spectrumModel(xs []uint64) (re, im []uint64) {
	n := float64(len(xs))
	for j := range xs {
		var p, q uint64
		for k, x := range xs {
			turn := -2 * math.Pi * float64(j) * float64(k) / n
			p = addModel(p, mulModel(x, near(math.Cos(turn))))
			q = addModel(q, mulModel(x, near(math.Sin(turn))))
		}
		re, im = append(re, p), append(im, q)
	}
	return re, im
}

func powerModel(xs []uint64) uint64 {
	re, im := spectrumModel(xs)
	j := 1
	if len(xs) == 1 {
		j = 0
	}
	return addModel(mulModel(re[j], re[j]), mulModel(im[j], im[j]))
}

// edges are floats at which something begins or ends, of both signs.
func edges() []uint64 {
	out := []uint64{
		0, 1, 2, 3, 1<<51 - 1, 1 << 51, 1<<52 - 1, 1 << 52, 1<<52 + 1, 2 << 52, // noughts, the least floats, the least whole ones
		f(0.1), f(0.2), f(0.3), f(0.5), f(math.Nextafter(0.5, 0)), f(math.Nextafter(1, 0)), f(1), f(math.Nextafter(1, 2)), f(1.5), f(2), f(2.5), f(3), f(7), f(10),
		f(1<<31 - 1), f(1 << 32), f(1<<51 + 0.5), f(1<<52 - 0.5), f(1 << 52), f(1<<52 + 1), f(1<<53 - 1), f(1 << 53), f(1<<53 + 2), f(1 << 63), f(1 << 64), f(1e300),
		f(math.Sqrt(math.MaxFloat64)), f(math.MaxFloat64 / 2), f(math.MaxFloat64), infinity,
		infinity + 1, api.Stale, nan - 1, nan, nan + 1, infinity | (1<<52 - 1),
	}
	for _, v := range out[:len(out):len(out)] {
		out = append(out, v|below)
	}
	return out
}

// chance is a float: any bits, or one of few digits, or an edge.
func chance(r *rand.Rand) uint64 {
	switch r.IntN(4) {
	case 0:
		return r.Uint64()
	case 1:
		return f(float64(r.IntN(2001)-1000) / 100)
	case 2:
		l := edges()
		return l[r.IntN(len(l))]
	}
	return f((r.Float64() - 0.5) * 8)
}
