package letters

import (
	"strings"
	"testing"
)

func TestEachByte(t *testing.T) {
	for c := range 256 {
		s := string([]byte{byte(c)})
		if got, want := IsDigit(byte(c)), strings.Contains("0123456789", s); got != want {
			t.Errorf("IsDigit(%q): %v", s, got)
		}
		if got, want := IsLetter(byte(c)), strings.Contains("ABCDEFGHIJKLMNOPQRSTUVWXYZ_abcdefghijklmnopqrstuvwxyz", s); got != want {
			t.Errorf("IsLetter(%q): %v", s, got)
		}
	}
}
