package names

import (
	"strings"
	"testing"
)

const fileBytes = "abcdefghijklmnopqrstuvwxyz0123456789/.-"

func TestEachByteInEachPlace(t *testing.T) {
	for c := range 256 {
		b := string([]byte{byte(c)})
		want := strings.Contains(fileBytes, b)
		for _, s := range []string{b, b + "a", "a" + b, "a" + b + "a"} {
			if OfFile(s) != want {
				t.Errorf("%q: %v", s, !want)
			}
		}
	}
}

func TestLengths(t *testing.T) {
	for n := range 200 {
		if got, want := OfFile(strings.Repeat("q", n)), n >= 1 && n <= 64; got != want {
			t.Errorf("%d bytes: %v", n, got)
		}
	}
}
