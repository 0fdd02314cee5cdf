// Package letters asks bytes whether words may hold them: what the layers share that read words.
package letters

// IsDigit asks whether a byte is one of 0 to 9.
func IsDigit(c byte) bool {
	return '0' <= c && c <= '9'
}

// IsLetter asks whether a byte is one of A to Z, a to z and _.
func IsLetter(c byte) bool {
	return 'a' <= c && c <= 'z' || 'A' <= c && c <= 'Z' || c == '_'
}
