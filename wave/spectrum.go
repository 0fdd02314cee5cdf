package wave

import (
	"math"

	"tidewrack/api"
)

// most is how many floats a spectrum may be of.
const most = 8

// Spectrum: P21.2.
func Spectrum(xs []uint64) ([]uint64, []uint64, api.Errno) {
	if !hasSpectrum(len(xs)) {
		return nil, nil, api.ErrWaveSize
	}
	re := make([]uint64, len(xs))
	im := make([]uint64, len(xs))
	for j := range xs {
		sum := line(xs, j)
		re[j], im[j] = bits(real(sum)), bits(imag(sum))
	}
	return re, im, api.OK
}

// Power: P21.2.
func Power(xs []uint64) (uint64, api.Errno) {
	if !hasSpectrum(len(xs)) {
		return 0, api.ErrWaveSize
	}
	sum := line(xs, min(1, len(xs)-1))
	return bits(product(real(sum), real(sum)) + product(imag(sum), imag(sum))), api.OK
}

func hasSpectrum(n int) bool {
	switch n {
	case 1, 2, 4, most:
		return true
	}
	return false
}

// line is the spectrum's sum at j. Its parts are gathered one by one: a product of complex numbers would add a nought times a float, which is none of an infinity.
func line(xs []uint64, j int) complex128 {
	var sum complex128
	k := 0
next:
	if k < len(xs) {
		x, w := float(xs[k]), twiddle(len(xs), j*k)
		sum = complex(real(sum)+product(x, real(w)), imag(sum)+product(x, imag(w)))
		k++
		goto next
	}
	return sum
}

// product is rounded by itself, as a float that is converted is: a sum behind it may not be joined with it.
func product(x, y float64) float64 {
	return float64(x * y)
}

// twiddle is e to the power of -2 pi i k / n: a step round the circle of most steps, of which those of a lesser n leave some out.
func twiddle(n, k int) complex128 {
	c := math.Float64frombits(0x3fe6a09e667f3bcd) // the root of a half
	circle := [most]complex128{
		complex(1, 0), complex(c, -c), complex(0, -1), complex(-c, -c),
		complex(-1, 0), complex(-c, c), complex(0, 1), complex(c, c),
	}
	return circle[k%n*(most/n)]
}
