package quote

import (
	"strings"
	"testing"
)

func TestEachByte(t *testing.T) {
	own := map[byte]string{'"': `\"`, '\\': `\\`, '\n': `\n`}
	for c := range 256 {
		b := string([]byte{byte(c)})
		want := b
		if s, ok := own[byte(c)]; ok {
			want = s
		}
		if got := Text(b); got != `"`+want+`"` {
			t.Errorf("Text(%q): %q", b, got)
		}
		if got := Text(b + "x" + b + b); got != `"`+want+"x"+want+want+`"` {
			t.Errorf("Text of some %q: %q", b, got)
		}
	}
}

func TestTexts(t *testing.T) {
	for s, want := range map[string]string{
		"":                          `""`,
		"tide":                      `"tide"`,
		`\n`:                        `"\\n"`,
		"\"\\\n":                    `"\"\\\n"`,
		"é\xff":                     "\"é\xff\"",
		strings.Repeat("a\n", 1000): `"` + strings.Repeat(`a\n`, 1000) + `"`,
	} {
		if got := Text(s); got != want {
			t.Errorf("Text(%q): %q", s, got)
		}
	}
}
