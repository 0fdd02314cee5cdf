// Package names asks texts whether they are names: what the layers share that keep files.
package names

import "tidewrack/api"

// OfFile asks whether a disk's file may have that name.
func OfFile(s string) bool {
	if len(s) < 1 || len(s) > api.MaxName {
		return false
	}
	for i := range len(s) {
		if !isFileByte(s[i]) {
			return false
		}
	}
	return true
}

func isFileByte(c byte) bool {
	return 'a' <= c && c <= 'z' || '0' <= c && c <= '9' || c == '/' || c == '.' || c == '-'
}
