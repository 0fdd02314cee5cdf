package names

import (
	"strings"
	"testing"
)

const tenantBytes = "abcdefghijklmnopqrstuvwxyz0123456789-"

// kinds are the kinds of names: what asks for one, its bytes, and how many there may be.
var kinds = []struct {
	what  string
	ask   func(string) bool
	bytes string
	most  int
}{{"OfFile", OfFile, tenantBytes + "/.", 64}, {"OfTenant", OfTenant, tenantBytes, 32}}

func TestEachByteInEachPlace(t *testing.T) {
	for _, k := range kinds {
		for c := range 256 {
			b := string([]byte{byte(c)})
			want := strings.Contains(k.bytes, b)
			for _, s := range []string{b, b + "a", "a" + b, "a" + b + "a"} {
				if k.ask(s) != want {
					t.Errorf("%s(%q): %v", k.what, s, !want)
				}
			}
		}
	}
}

func TestLengths(t *testing.T) {
	for _, k := range kinds {
		for n := range 200 {
			if got, want := k.ask(strings.Repeat("q", n)), n >= 1 && n <= k.most; got != want {
				t.Errorf("%s: %d bytes: %v", k.what, n, got)
			}
		}
	}
}
