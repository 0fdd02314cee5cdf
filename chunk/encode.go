package chunk

import (
	"tidewrack/api"
	"tidewrack/bits"
)

// writer keeps the last byte, as long as it is not full, apart from those ahead: bits.Append copies what it goes on from, which would take a time of all bits times all puts.
type writer struct {
	full []byte
	last []byte
	used int
}

func (w *writer) put(v uint64, width int) {
	b, n, _ := bits.Append(w.last, w.used, v, width)
	w.full = append(w.full, b[:n/8]...)
	w.last, w.used = b[n/8:], n%8
}

func (w *writer) bytes() []byte {
	return append(w.full, w.last...)
}

func (w *writer) putBend(z int64) {
	f := bendForms[formOf(z)]
	w.put(f.mark, f.markBits)
	w.put(uint64(z), f.bits)
}

// lay takes points that may be. It goes from state to state: a point's step, then one of the three forms of its change, then the next point's step.
func lay(ps []api.Point) []byte {
	var (
		out  writer
		past = newTrail()
		step int64
		x    uint64
		own  window
		i    int
	)
	out.put(uint64(len(ps)), countBits)
	if len(ps) == 0 {
		goto end
	}
	out.put(uint64(ps[0].T), wordBits)
	out.put(ps[0].V, wordBits)
next:
	past.Point = ps[i]
	i++
	if i == len(ps) {
		goto end
	}
	step = ps[i].T - past.T
	out.putBend(step - past.step)
	past.step = step
	x = ps[i].V ^ past.V
	if x == 0 {
		goto same
	}
	own = windowOf(x)
	if past.window.takes(own) {
		goto kept
	}
	out.put(0b11, 2)
	out.put(uint64(own.ahead), aheadBits)
	out.put(uint64(own.width()-1), widthBits)
	out.put(x>>own.behind, own.width())
	past.window = own
	goto next
same:
	out.put(0, 1)
	goto next
kept:
	out.put(0b10, 2)
	out.put(x>>past.behind, past.width())
	goto next
end:
	return out.bytes()
}
