// Package bits appends bits to a string of bits, and reads them: see DOC.md, chapter 1.
package bits

const (
	byteBits = 8
	wordBits = 64
)

// Whole: P1.1. The bits behind the n-th have to be 0, so that a string of bits has one form alone.
func Whole(b []byte, n int) bool {
	if n < 0 || len(b) != bytesOf(n) {
		return false
	}
	used := n % byteBits
	return used == 0 || b[len(b)-1]<<used == 0
}

// Append: P1.2. It copies b: whoever handed it in may go on from it in several ways.
func Append(b []byte, n int, v uint64, w int) ([]byte, int, bool) {
	if !Whole(b, n) || !isWidth(w) {
		return nil, 0, false
	}
	out := make([]byte, bytesOf(n+w))
	copy(out, b)
	put(out, n, v, w)
	return out, n + w, true
}

// Read: P1.3. The place is held against n-w: at+w might wrap round.
func Read(b []byte, n int, at int, w int) (uint64, bool) {
	if !Whole(b, n) || !isWidth(w) || at < 0 || at > n-w {
		return 0, false
	}
	return get(b, at, w), true
}

// bytesOf divides ahead of adding: n may be the greatest int.
func bytesOf(n int) int {
	if n%byteBits == 0 {
		return n / byteBits
	}
	return n/byteBits + 1
}

func isWidth(w int) bool {
	return w >= 0 && w <= wordBits
}

// put only sets bits: those from at on have to be 0.
func put(b []byte, at int, v uint64, w int) {
	left := v << (wordBits - w) // at a width of 0 all of v is shifted out
	end := at + w
next:
	if at == end {
		return
	}
	b[at/byteBits] |= byte(left>>(wordBits-1)) << (byteBits - 1 - at%byteBits)
	left <<= 1
	at++
	goto next
}

func get(b []byte, at int, w int) uint64 {
	v := uint64(0)
	end := at + w
next:
	if at == end {
		return v
	}
	v = v<<1 | uint64(b[at/byteBits]>>(byteBits-1-at%byteBits)&1)
	at++
	goto next
}
