package chunk

// bendForm is one of the forms of a bend (how much one step is longer than the one ahead): a mark, and the bend in so many bits behind it.
type bendForm struct {
	mark     uint64
	markBits int
	bits     int
}

// Each form but the last has as many ones in its mark as there are forms ahead of it, and a nought behind them.
var bendForms = [5]bendForm{{0b0, 1, 0}, {0b10, 2, 7}, {0b110, 3, 9}, {0b1110, 4, 12}, {0b1111, 4, wordBits}}

const lastForm = len(bendForms) - 1

// formOf is the shortest form that takes z.
func formOf(z int64) int {
	k := 0
next:
	if signed(uint64(z), bendForms[k].bits) == z {
		return k
	}
	k++ // the last form takes all
	goto next
}

// signed is the number that the lowest bits of v are in two's complement; of no bits it is 0.
func signed(v uint64, bits int) int64 {
	return int64(v<<(wordBits-bits)) >> (wordBits - bits)
}

const (
	aheadBits = 5
	widthBits = 6
	mostAhead = 1<<aheadBits - 1
)

// window is which bits of a change are told: all but so many noughts ahead and behind.
type window struct {
	ahead, behind int
}

// noWindow has no bits, and no change lies in it.
func noWindow() window {
	return window{ahead: wordBits}
}

// windowOf is the narrowest one of a change x that is not 0.
func windowOf(x uint64) window {
	return window{noughtsAhead(x), noughtsBehind(x)}
}

func (w window) width() int {
	return wordBits - w.ahead - w.behind
}

func (w window) takes(other window) bool {
	return other.ahead >= w.ahead && other.behind >= w.behind
}

// noughtsAhead halves what it looks at: the highest 1 is in the upper half, or that half is all noughts and goes.
func noughtsAhead(x uint64) int {
	n := 0
	for half := wordBits / 2; half > 0; half /= 2 {
		if x>>(wordBits-half) == 0 {
			x <<= half
			n += half
		}
	}
	return min(n, mostAhead)
}

func noughtsBehind(x uint64) int {
	n := 0
	for half := wordBits / 2; half > 0; half /= 2 {
		if x<<(wordBits-half) == 0 {
			x >>= half
			n += half
		}
	}
	return n
}
