package names

import (
	"strings"
	"testing"
)

const (
	tenantBytes  = "abcdefghijklmnopqrstuvwxyz0123456789-"
	labelLetters = "ABCDEFGHIJKLMNOPQRSTUVWXYZ_abcdefghijklmnopqrstuvwxyz"
)

// kinds are the kinds of names: what asks for one, what its first byte and each other one may be, and how many there may be.
var kinds = []struct {
	what  string
	ask   func(string) bool
	first string
	bytes string
	most  int
}{
	{"OfFile", OfFile, tenantBytes + "/.", tenantBytes + "/.", 64},
	{"OfTenant", OfTenant, tenantBytes, tenantBytes, 32},
	{"OfLabel", OfLabel, labelLetters, labelLetters + "0123456789", 64},
}

func TestEachByteInEachPlace(t *testing.T) {
	for _, k := range kinds {
		for c := range 256 {
			b := string([]byte{byte(c)})
			for s, want := range map[string]bool{
				b:             strings.Contains(k.first, b),
				b + "a":       strings.Contains(k.first, b),
				"a" + b:       strings.Contains(k.bytes, b),
				"a" + b + "a": strings.Contains(k.bytes, b),
			} {
				if k.ask(s) != want {
					t.Errorf("%s(%q): %v", k.what, s, !want)
				}
			}
		}
	}
}

func TestLengths(t *testing.T) {
	for _, k := range kinds {
		for n := range 200 {
			if got, want := k.ask(strings.Repeat("q", n)), n >= 1 && n <= k.most; got != want {
				t.Errorf("%s: %d bytes: %v", k.what, n, got)
			}
		}
	}
}
