package chunk

import (
	"bytes"
	"fmt"
	"slices"
	"strings"
	"testing"

	"tidewrack/api"
)

// The model writes bits as texts of noughts and ones, so that the tests hold the package against texts and not against its own shifts.

// digits is v in w noughts and ones, in two's complement.
func digits(v uint64, w int) string {
	return fmt.Sprintf("%064b", v)[64-w:]
}

func bendText(z int64) string {
	switch {
	case z == 0:
		return "0"
	case -64 <= z && z <= 63:
		return "10" + digits(uint64(z), 7)
	case -256 <= z && z <= 255:
		return "110" + digits(uint64(z), 9)
	case -2048 <= z && z <= 2047:
		return "1110" + digits(uint64(z), 12)
	}
	return "1111" + digits(uint64(z), 64)
}

// span is a window: the places of its first digit, and of the one behind its last; {0, 0} is none.
type span struct {
	from, to int
}

func changeText(x uint64, left span) (string, span) {
	if x == 0 {
		return "0", left
	}
	d := digits(x, 64)
	own := span{min(strings.IndexByte(d, '1'), 31), strings.LastIndexByte(d, '1') + 1}
	if left.from <= own.from && own.to <= left.to {
		return "10" + d[left.from:left.to], left
	}
	return "11" + digits(uint64(own.from), 5) + digits(uint64(own.to-own.from-1), 6) + d[own.from:own.to], own
}

// textOf is the points' bits as the chapter has them.
func textOf(ps []api.Point) string {
	var s strings.Builder
	s.WriteString(digits(uint64(len(ps)), 13))
	var left span
	d := int64(0)
	for i, p := range ps {
		if i == 0 {
			s.WriteString(digits(uint64(p.T), 64) + digits(p.V, 64))
			continue
		}
		next := p.T - ps[i-1].T
		s.WriteString(bendText(next - d))
		d = next
		var change string
		change, left = changeText(p.V^ps[i-1].V, left)
		s.WriteString(change)
	}
	return s.String()
}

// pack is the string of bits that a text of noughts and ones says.
func pack(s string) []byte {
	b := make([]byte, (len(s)+7)/8)
	for i, c := range s {
		if c == '1' {
			b[i/8] += 128 >> (i % 8)
		}
	}
	return b
}

// chance is a row of numbers without a short period.
type chance uint64

func (c *chance) next() uint64 {
	*c = *c*6364136223846793005 + 1442695040888963407
	x := uint64(*c)
	return (x ^ x>>29) * 0xbf58476d1ce4e5b9
}

func (c *chance) below(n int) int {
	return int(c.next() >> 33 % uint64(n))
}

func at(t int64, v uint64) api.Point {
	return api.Point{T: t, V: v}
}

// stepped has the points whose steps are ds, from the time 0 on, with V 0.
func stepped(ds ...int64) []api.Point {
	out := []api.Point{{}}
	for _, d := range ds {
		out = append(out, at(out[len(out)-1].T+d, 0))
	}
	return out
}

// valued has points whose V are vs, a step of 1 apart.
func valued(vs ...uint64) []api.Point {
	var out []api.Point
	for i, v := range vs {
		out = append(out, at(int64(i), v))
	}
	return out
}

// mixed has n points by chance: steps of all forms, and changes of all widths.
func mixed(c *chance, n int) []api.Point {
	var out []api.Point
	t, v, d := int64(-1000), uint64(0), int64(1)
	for range n {
		out = append(out, at(t, v))
		if c.below(3) > 0 {
			d = int64(c.next() >> (40 + c.below(24)))
		}
		t += d + 1
		if c.below(4) > 0 {
			v ^= c.next() >> c.below(64) << c.below(64)
		}
	}
	return out
}

func wantPoints(t *testing.T, what string, b []byte, want []api.Point) {
	t.Helper()
	if got, e := Decode(b); e != api.OK || !slices.Equal(got, want) {
		t.Fatalf("P5.2: %s: Decode(%x): %v, %d, and not %v", what, b, got, e, want)
	}
}

func wantNoPoints(t *testing.T, what string, b []byte) {
	t.Helper()
	if got, e := Decode(b); e != api.ErrChunkForm || len(got) != 0 {
		t.Fatalf("P5.2: %s: Decode(%x): %v, %d", what, b, got, e)
	}
}

// wantBothWays holds points that may be against their bits, there and back.
func wantBothWays(t *testing.T, what string, ps []api.Point) []byte {
	t.Helper()
	b, e := Encode(ps)
	if want := pack(textOf(ps)); e != api.OK || !bytes.Equal(b, want) {
		t.Fatalf("P5.1: %s: Encode(%v): %x, %d, and not %x", what, ps, b, e, want)
	}
	wantPoints(t, what, b, ps)
	return b
}

// wantOneForm asks that b is refused, or is just what its points are laid as.
func wantOneForm(t *testing.T, what string, b []byte) bool {
	t.Helper()
	ps, e := Decode(b)
	if e != api.OK {
		wantNoPoints(t, what, b)
		return false
	}
	if want := pack(textOf(ps)); !bytes.Equal(b, want) {
		t.Fatalf("P5.3: %s: %x is read as %v, whose bytes are %x", what, b, ps, want)
	}
	return true
}
