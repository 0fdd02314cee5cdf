package label

import (
	"tidewrack/api"
	"tidewrack/names"
)

// Bounds of each byte of a rune behind its first one, where that does not narrow them.
const (
	tailLow  = 0x80
	tailHigh = 0xbf
)

// fault is the first thing that is wrong with a label behind one of the Name ahead.
func fault(l api.Label, ahead string) api.Errno {
	switch {
	case !names.OfLabel(l.Name):
		return api.ErrLabelName
	case !isValue(l.Value):
		return api.ErrLabelText
	case l.Name <= ahead:
		return api.ErrLabelSort
	}
	return api.OK
}

func isValue(s string) bool {
	return len(s) >= 1 && len(s) <= api.MaxValue && isUTF8(s)
}

// isUTF8 is a machine: its labels say how many bytes the rune at hand still asks for, none at first.
func isUTF8(s string) bool {
	var first, low, high byte
	at := 0
none:
	if at == len(s) {
		return true
	}
	first = s[at]
	at++
	low, high = second(first)
	switch {
	case first < 0x80:
		goto none
	case first < 0xc2 || first > 0xf4: // a tail, or the first byte of nothing but overlong forms or runes above U+10FFFF
		return false
	case first < 0xe0:
		goto one
	case first < 0xf0:
		goto two
	}
	if !stands(s, at, low, high) {
		return false
	}
	at++
	low, high = tailLow, tailHigh
two:
	if !stands(s, at, low, high) {
		return false
	}
	at++
	low, high = tailLow, tailHigh
one:
	if !stands(s, at, low, high) {
		return false
	}
	at++
	goto none
}

// second bounds a rune's second byte: within the narrower bounds lie neither overlong forms (e0, f0) nor surrogates (ed) nor what is above U+10FFFF (f4).
func second(first byte) (byte, byte) {
	switch first {
	case 0xe0:
		return 0xa0, tailHigh
	case 0xed:
		return tailLow, 0x9f
	case 0xf0:
		return 0x90, tailHigh
	case 0xf4:
		return tailLow, 0x8f
	}
	return tailLow, tailHigh
}

func stands(s string, at int, low, high byte) bool {
	return at < len(s) && s[at] >= low && s[at] <= high
}
