package numeral

import (
	"regexp"
	"strings"
	"testing"
	"time"
)

var form = regexp.MustCompile(`\A(0|[1-9][0-9]*)(\.[0-9]+)?\z`)

// isForm is what Is should tell.
func isForm(s string) bool {
	return form.MatchString(s) && len(strings.ReplaceAll(s, ".", "")) <= 15
}

// longest is what Length should tell.
func longest(s string) int {
	for n := min(len(s), 17); n > 0; n-- {
		if isForm(s[:n]) {
			return n
		}
	}
	return 0
}

func told(t *testing.T, s string) {
	t.Helper()
	if got, want := Length(s), longest(s); got != want {
		t.Errorf("Length(%.40q): %d; want %d", s, got, want)
	}
	if got, want := Is(s), isForm(s); got != want {
		t.Errorf("Is(%.40q): %v; want %v", s, got, want)
	}
}

// TestShort: all short texts of bytes that mean something, and each byte beside numbers.
func TestShort(t *testing.T) {
	texts := []string{""}
	for range 6 {
		var longer []string
		for _, s := range texts {
			told(t, s)
			for _, c := range "019.:/x " {
				longer = append(longer, s+string(c))
			}
		}
		texts = longer
	}
	for c := range 256 {
		for _, s := range []string{"", "0", "7", "0.", "1.5", "120"} {
			told(t, s+string([]byte{byte(c)}))
			told(t, string([]byte{byte(c)})+s)
			told(t, s+string([]byte{byte(c)})+"5")
		}
	}
}

// TestDigits: so many digits ahead of the point and behind it.
func TestDigits(t *testing.T) {
	for whole := range 20 {
		for part := range 20 {
			for _, digit := range "09" {
				s := strings.Repeat("1", whole) + "." + strings.Repeat(string(digit), part)
				told(t, s)
				told(t, s+"s")
				told(t, "0"+s)
			}
		}
		told(t, strings.Repeat("9", whole))
		told(t, strings.Repeat("0", whole))
	}
	if !Is("123456789.012345") || Is("1234567890.012345") || Is("0.000000000000001") {
		t.Error("15 digits")
	}
}

func TestSizes(t *testing.T) {
	much := strings.Repeat("9", 1<<28)
	start := time.Now()
	for range 100000 {
		if Length(much) != 15 || Is(much) {
			t.Fatal("many digits")
		}
	}
	if took := time.Since(start); took > time.Second {
		t.Errorf("took %v", took)
	}
}
