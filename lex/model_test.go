package lex

import (
	"fmt"
	"math/big"
	"regexp"
	"strings"
	"testing"

	"tidewrack/api"
)

// What chapter 17 says, by the library's means. A byte that is no UTF-8 is to regexp a rune that no token begins with, and any in a text.

var (
	blanks     = regexp.MustCompile(`\A[ \t\r\n]*`)
	runForm    = regexp.MustCompile(`\A[0-9][0-9.A-Za-z_]*`)
	numberForm = regexp.MustCompile(`\A(0|[1-9][0-9]*)(\.[0-9]+)?\z`)
	spanForm   = regexp.MustCompile(`\A(0|[1-9][0-9]*)([smhd])\z`)
	wordForm   = regexp.MustCompile(`\A[A-Za-z_:][A-Za-z0-9_:]*`)
	textForm   = regexp.MustCompile(`\A"([^"\\\x00-\x1f]|\\["\\n])*"`)
	signForm   = regexp.MustCompile(`\A(==|!=|<=|>=|=~|!~|[<>=+*/(){}\[\],-])`)

	unquoted = strings.NewReplacer(`\"`, "\"", `\\`, "\\", `\n`, "\n")
	quoted   = strings.NewReplacer("\"", `\"`, "\\", `\\`, "\n", `\n`)
)

func spanOf(count, unit string) int64 {
	n, _ := new(big.Int).SetString(count, 10)
	n.Mul(n, big.NewInt(map[string]int64{"s": 1, "m": 60, "h": 3600, "d": 86400}[unit]))
	if n.Sign() == 0 || n.Cmp(big.NewInt(2147483647)) > 0 {
		return 0
	}
	return n.Int64()
}

// runOf is the token that a whole run is.
func runOf(run string) (api.Token, bool) {
	if p := spanForm.FindStringSubmatch(run); p != nil {
		span := spanOf(p[1], p[2])
		return api.Token{Kind: 2, Text: run, Span: span}, span > 0
	}
	return api.Token{Kind: 1, Text: run}, numberForm.MatchString(run) && len(strings.ReplaceAll(run, ".", "")) <= 15
}

// tokenOf is the token at the beginning of a text, and how many bytes it has.
func tokenOf(s string) (api.Token, int, api.Errno) {
	if run := runForm.FindString(s); run != "" {
		if t, ok := runOf(run); ok {
			return t, len(run), 0
		}
		return api.Token{}, 0, 172
	}
	if s[0] == '"' {
		b := textForm.FindString(s)
		if b == "" {
			return api.Token{}, 0, 173
		}
		return api.Token{Kind: 4, Text: unquoted.Replace(b[1 : len(b)-1])}, len(b), 0
	}
	if b := wordForm.FindString(s); b != "" {
		return api.Token{Kind: 3, Text: b}, len(b), 0
	}
	if b := signForm.FindString(s); b != "" {
		return api.Token{Kind: 5, Text: b}, len(b), 0
	}
	return api.Token{}, 0, 171
}

func lexOf(s string) ([]api.Token, int, api.Errno) {
	if len(s) > 4096 {
		return nil, 0, 170
	}
	var out []api.Token
	at := 0
	for {
		at += len(blanks.FindString(s[at:]))
		if at == len(s) {
			return append(out, api.Token{At: at}), 0, 0
		}
		t, n, e := tokenOf(s[at:])
		if e != 0 {
			return nil, at, e
		}
		t.At = at
		out = append(out, t)
		at += n
	}
}

// told is an answer as text, for faults.
func told(l []api.Token, at int, e api.Errno) string {
	s := fmt.Sprintf("%+v, %d, %d", l, at, e)
	return s[:min(len(s), 300)]
}

func same(l, other []api.Token) bool {
	if len(l) != len(other) {
		return false
	}
	for i := range l {
		if l[i] != other[i] {
			return false
		}
	}
	return true
}

// lexIs holds Lex against the model, and tells what it answered.
func lexIs(t *testing.T, s string) ([]api.Token, api.Errno) {
	t.Helper()
	l, at, e := Lex(s)
	if want, wantAt, wantE := lexOf(s); !same(l, want) || at != wantAt || e != wantE {
		t.Errorf("P17.1: Lex(%.99q) of %d bytes: %s; want %s", s, len(s), told(l, at, e), told(want, wantAt, wantE))
	}
	if e == api.OK {
		wholeIs(t, s, l)
	}
	return l, e
}

// bytesOf is how a token stands in a query: there is one way alone.
func bytesOf(t api.Token) string {
	if t.Kind == api.TokText {
		return `"` + quoted.Replace(t.Text) + `"`
	}
	return t.Text
}

// wholeIs holds a query against its tokens: their bytes, and blanks, are all of it.
func wholeIs(t *testing.T, s string, l []api.Token) {
	t.Helper()
	at := 0
	for _, x := range l {
		if x.At < at || x.At > len(s) || strings.Trim(s[at:x.At], " \t\r\n") != "" || !strings.HasPrefix(s[x.At:], bytesOf(x)) {
			t.Errorf("P17.2: Lex(%.99q): %+v is not what stands behind %d and blanks", s, x, at)
			return
		}
		at = x.At + len(bytesOf(x))
	}
	if at != len(s) {
		t.Errorf("P17.2: Lex(%.99q): the tokens end at %d of %d bytes", s, at, len(s))
	}
}
