// Package double asks floats of 64 bits by their bits: what the layers share that hand them about so.
package double

const (
	Sign     = 1 << 63
	infinity = 0x7ff0000000000000 // bits above it, but for the sign, are no number
)

// IsNumber asks whether a float is a number, or an infinity.
func IsNumber(v uint64) bool {
	return v&^Sign <= infinity
}
