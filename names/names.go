// Package names asks texts whether they are names: what the layers share that keep files, hear of tenants, or read of labels.
package names

import (
	"tidewrack/api"
	"tidewrack/letters"
)

// OfFile asks whether a disk's file may have that name.
func OfFile(s string) bool {
	return isName(s, api.MaxName, isFileByte)
}

// OfTenant asks whether a tenant may have that name.
func OfTenant(s string) bool {
	return isName(s, api.MaxTenant, isTenantByte)
}

// OfLabel asks whether a label may have that Name.
func OfLabel(s string) bool {
	return isName(s, api.MaxName, isLabelByte) && !letters.IsDigit(s[0])
}

// isName asks whether a text has 1 to most bytes, all of them such as may be.
func isName(s string, most int, mayBe func(byte) bool) bool {
	if len(s) < 1 || len(s) > most {
		return false
	}
	for i := range len(s) {
		if !mayBe(s[i]) {
			return false
		}
	}
	return true
}

func isFileByte(c byte) bool {
	return isTenantByte(c) || c == '/' || c == '.'
}

func isTenantByte(c byte) bool {
	return 'a' <= c && c <= 'z' || '0' <= c && c <= '9' || c == '-'
}

func isLabelByte(c byte) bool {
	return letters.IsLetter(c) || letters.IsDigit(c)
}
