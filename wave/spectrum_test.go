package wave

import (
	"math"
	"math/rand/v2"
	"slices"
	"testing"
	"time"

	"tidewrack/api"
)

func fs(xs ...float64) []uint64 {
	var out []uint64
	for _, x := range xs {
		out = append(out, f(x))
	}
	return out
}

func TestExamples(t *testing.T) {
	if re, im, e := Spectrum(fs(1, 2)); !slices.Equal(re, fs(3, -1)) || !slices.Equal(im, fs(0, 0)) || e != api.OK {
		t.Errorf("P21.2: %x, %x, %d", re, im, e)
	}
	if p, e := Power(fs(1, 0, -1, 0)); p != f(4) || e != api.OK {
		t.Errorf("P21.2: %x, %d", p, e)
	}
	if p, e := Power(fs(3)); p != f(9) || e != api.OK {
		t.Errorf("P21.2: %x, %d", p, e)
	}
}

// spectrumIs holds both calls against the model, and against P21.3.
func spectrumIs(t *testing.T, xs []uint64) {
	t.Helper()
	re, im, e := Spectrum(xs)
	wantRe, wantIm := spectrumModel(xs)
	if !slices.Equal(re, wantRe) || !slices.Equal(im, wantIm) || e != api.OK {
		t.Errorf("P21.2: Spectrum(%x): %x, %x, %d; want %x, %x", xs, re, im, e, wantRe, wantIm)
	}
	p, e := Power(xs)
	if want := powerModel(xs); p != want || e != api.OK {
		t.Errorf("P21.2: Power(%x): %x, %d; want %x", xs, p, e, want)
	}
	if p >= below {
		t.Errorf("P21.3: Power(%x): %x", xs, p)
	}
	sum := uint64(0)
	for _, x := range xs {
		sum, _ = Arith(api.OpAdd, sum, x)
	}
	if len(re) == 0 || re[0] != sum {
		t.Errorf("P21.3: Spectrum(%x): %x; the floats' sum is %x", xs, re, sum)
	}
}

// lists hands on all lists of n of the floats.
func lists(of []uint64, n int, to func([]uint64)) {
	xs := make([]uint64, n)
	var next func(i int)
	next = func(i int) {
		if i == n {
			to(xs)
			return
		}
		for _, x := range of {
			xs[i] = x
			next(i + 1)
		}
	}
	next(0)
}

func TestSmallLists(t *testing.T) {
	ask := func(xs []uint64) { spectrumIs(t, xs) }
	lists(edges(), 1, ask)
	lists(edges(), 2, ask)
	lists([]uint64{below, f(1), f(-0.3), f(math.MaxFloat64), infinity | below, api.Stale}, 4, ask)
	lists([]uint64{below, f(1), f(-0.1)}, 8, ask)
}

// TestOneFloat: one float that is not 0 tells the twiddles, one that is infinite where they are 0.
func TestOneFloat(t *testing.T) {
	for _, n := range []int{1, 2, 4, 8} {
		for at := range n {
			for _, x := range edges() {
				for _, rest := range []uint64{0, below, f(1)} {
					xs := slices.Repeat([]uint64{rest}, n)
					xs[at] = x
					spectrumIs(t, xs)
				}
			}
		}
	}
	c := math.Float64frombits(0x3fe6a09e667f3bcd)
	re, im, _ := Spectrum(fs(0, 1, 0, 0, 0, 0, 0, 0))
	if !slices.Equal(re, fs(1, c, 0, -c, -1, -c, 0, c)) || !slices.Equal(im, fs(0, -c, -1, -c, 0, c, 1, c)) {
		t.Errorf("P21.2: %x, %x", re, im)
	}
}

func TestByChance(t *testing.T) {
	r := rand.New(rand.NewPCG(21, 4))
	for range 800 {
		for _, n := range []int{1, 2, 4, 8} {
			xs := make([]uint64, n)
			for i := range xs {
				xs[i] = chance(r)
			}
			spectrumIs(t, xs)
			for i := range xs {
				xs[i] = f((r.Float64() - 0.5) * math.Pow(2, float64(r.IntN(60)))) // of sizes so different that the sums' order tells
			}
			spectrumIs(t, xs)
		}
	}
}

func TestWrongSizes(t *testing.T) {
	for n := range 70 {
		if n == 1 || n == 2 || n == 4 || n == 8 {
			continue
		}
		xs := slices.Repeat([]uint64{f(1)}, n)
		if re, im, e := Spectrum(xs); len(re) != 0 || len(im) != 0 || e != api.ErrWaveSize {
			t.Errorf("P21.2: Spectrum of %d: %x, %x, %d", n, re, im, e)
		}
		if p, e := Power(xs); p != 0 || e != api.ErrWaveSize {
			t.Errorf("P21.2: Power of %d: %x, %d", n, p, e)
		}
	}
	for _, xs := range [][]uint64{nil, {}, make([]uint64, 0, 8)} {
		re, im, e := Spectrum(xs)
		p, g := Power(xs)
		if len(re) != 0 || len(im) != 0 || p != 0 || e != api.ErrWaveSize || g != api.ErrWaveSize {
			t.Errorf("R2: nothing: %x, %x, %d, %x, %d", re, im, e, p, g)
		}
	}
}

// TestNothingChanged: what is handed in stays, what lies behind it is not read, and what is handed out is new.
func TestNothingChanged(t *testing.T) {
	for _, n := range []int{1, 2, 3, 4, 5, 8} {
		room := fs(1, 2, 3, 4, 5, 6, 7, 8, 9, 10)
		kept := slices.Clone(room)
		re, im, _ := Spectrum(room[:n])
		p, _ := Power(room[:n])
		if !slices.Equal(room, kept) {
			t.Errorf("R3: %x", room)
		}
		other := slices.Repeat([]uint64{api.Stale}, 10)
		copy(other, room[:n])
		re2, im2, _ := Spectrum(other[:n])
		p2, _ := Power(other[:n])
		if !slices.Equal(re, re2) || !slices.Equal(im, im2) || p != p2 {
			t.Errorf("R3: what lies behind a list is read")
		}
		wantRe, wantIm := slices.Clone(re), slices.Clone(im)
		for i := range re2 {
			re2[i] = 1
		}
		_ = append(re2[:cap(re2)], 2)
		clear(append(re, 1, 2, 3)[len(re):])
		if !slices.Equal(im, wantIm) || !slices.Equal(im2, wantIm) || !slices.Equal(re, wantRe) {
			t.Errorf("R3: answers share memory")
		}
		for _, x := range append(re[len(re):cap(re)], im[len(im):cap(im)]...) {
			if x != 0 {
				t.Errorf("R3: behind an answer: %x", x)
			}
		}
	}
}

func TestSizes(t *testing.T) {
	much := make([]uint64, 1<<24)
	eight := fs(1, 2, 3, 4, 5, 6, 7, 8)
	start := time.Now()
	for range 200000 {
		Spectrum(much)
		Power(much)
		Spectrum(eight)
		Power(eight)
	}
	if took := time.Since(start); took > 5*time.Second {
		t.Errorf("R1: took %v", took)
	}
}
