package lex

import (
	"strconv"
	"strings"

	"tidewrack/api"
	"tidewrack/letters"
	"tidewrack/numeral"
	"tidewrack/words"
)

const maxSpan = 1<<31 - 1

// number reads the number or the span that a text begins with, and tells how many bytes it has: none, if the run there is neither.
func number(s string) (api.Token, int) {
	var span int64
	length := numeral.Length(s)
	switch c := byteAt(s, length); {
	case letters.IsLetter(c):
		goto unit
	case isRunByte(c):
		goto wrong
	}
	return api.Token{Kind: api.TokNumber, Text: s[:length]}, length
unit:
	span = count(s[:length]) * words.Seconds(s[length])
	length++
	if span < 1 || span > maxSpan || isRunByte(byteAt(s, length)) {
		goto wrong
	}
	return api.Token{Kind: api.TokSpan, Text: s[:length], Span: span}, length
wrong:
	return api.Token{}, 0
}

// count is how many of its unit a span has: 0, if they are too many, or not whole.
func count(digits string) int64 {
	n, err := strconv.ParseInt(digits, 10, 32)
	if err != nil {
		return 0
	}
	return n
}

// isRunByte asks for the bytes over which a run goes that begins with a digit.
func isRunByte(c byte) bool {
	return letters.IsLetter(c) || letters.IsDigit(c) || c == '.'
}

func word(s string) (api.Token, int) {
	length := 1
more:
	if isWordByte(byteAt(s, length)) {
		length++
		goto more
	}
	return api.Token{Kind: api.TokWord, Text: s[:length]}, length
}

// text reads the text that begins with a quote, and tells how many bytes it has: none, if it is none.
func text(s string) (api.Token, int) {
	var says []byte
	length := 1
plain:
	switch c := byteAt(s, length); {
	case c == '"':
		goto end
	case c == '\\':
		goto escape
	case c < ' ':
		goto wrong
	}
	says = append(says, s[length])
	length++
	goto plain
escape:
	length++
	switch c := byteAt(s, length); c {
	case '"', '\\':
		says = append(says, c)
	case 'n':
		says = append(says, '\n')
	default:
		goto wrong
	}
	length++
	goto plain
end:
	return api.Token{Kind: api.TokText, Text: string(says)}, length + 1
wrong:
	return api.Token{}, 0
}

// sign reads the longest sign that a text begins with: each of two bytes is asked for ahead of the one that it begins with.
func sign(s string) (api.Token, int) {
	for _, x := range [...]string{"==", "!=", "<=", ">=", "=~", "!~", "<", ">", "=", "+", "-", "*", "/", "(", ")", "{", "}", "[", "]", ","} {
		if strings.HasPrefix(s, x) {
			return api.Token{Kind: api.TokSign, Text: x}, len(x)
		}
	}
	return api.Token{}, 0
}
