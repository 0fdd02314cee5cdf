package chunk

import (
	"tidewrack/api"
	"tidewrack/bits"
)

// reader goes on with noughts once something is wrong, so that its callers need to ask but once a point.
type reader struct {
	b     []byte
	at    int
	wrong bool
}

func (r *reader) take(width int) uint64 {
	v, ok := bits.Read(r.b, len(r.b)*8, r.at, width)
	if !ok {
		r.wrong = true
		return 0
	}
	r.at += width
	return v
}

// must holds what is read against what lay would have laid.
func (r *reader) must(holds bool) {
	r.wrong = r.wrong || !holds
}

func (r *reader) takeBend() int64 {
	k := 0
next:
	if k < lastForm && r.take(1) == 1 {
		k++
		goto next
	}
	n := bendForms[k].bits
	z := signed(r.take(n), n)
	r.must(formOf(z) == k)
	return z
}

// takeWindow answers none, in which no change lies, for one of more bits than there are behind the noughts ahead.
func (r *reader) takeWindow() window {
	ahead := int(r.take(aheadBits))
	behind := wordBits - ahead - int(r.take(widthBits)) - 1
	if behind < 0 {
		return noWindow()
	}
	return window{ahead, behind}
}

func (r *reader) takeChange(w window) uint64 {
	x := r.take(w.width()) << w.behind
	r.must(x != 0)
	return x
}

// read goes from state to state as lay does. The points need not be in order: numbers wrap round.
func read(b []byte) ([]api.Point, bool) {
	var (
		ps    []api.Point
		in    = reader{b: b}
		past  = newTrail()
		x     uint64
		fresh window
		left  = in.take(countBits)
	)
	if left == 0 {
		goto end
	}
	past.T = int64(in.take(wordBits))
	past.V = in.take(wordBits)
next:
	if in.wrong {
		goto end
	}
	ps = append(ps, past.Point)
	left--
	if left == 0 {
		goto end
	}
	past.step += in.takeBend()
	past.T += past.step
	if in.take(1) == 0 {
		goto next
	}
	if in.take(1) == 0 {
		goto kept
	}
	fresh = in.takeWindow()
	x = in.takeChange(fresh)
	in.must(windowOf(x) == fresh && !past.window.takes(fresh))
	past.window = fresh
	past.V ^= x
	goto next
kept:
	past.V ^= in.takeChange(past.window)
	goto next
end:
	return ps, !in.wrong && bits.Whole(b, in.at)
}
