// Package quote writes texts in quotes: what the layers share that tell texts.
package quote

import "strings"

// Text is a text in quotes, as a query has it, too: a quote, a backslash and a byte 10 in it are written by a backslash and one byte more.
func Text(s string) string {
	var out strings.Builder
	out.WriteByte('"')
	for i := range len(s) {
		switch x := s[i]; x {
		case '\\', '"':
			out.WriteByte('\\')
			out.WriteByte(x)
		case '\n':
			out.WriteString(`\n`)
		default:
			out.WriteByte(x)
		}
	}
	out.WriteByte('"')
	return out.String()
}
