package types

import (
	"fmt"
	"reflect"
	"regexp"
	"slices"
	"strings"
	"testing"

	"tidewrack/api"
)

// What chapter 19 says, by other means: a node's fields are held against a text a kind, its parts are found by where each ends, and what they must be is written out in full.

var (
	numberForm = regexp.MustCompile(`\A(0|[1-9][0-9]*)(\.[0-9]+)?\z`)
	nameForm   = regexp.MustCompile(`\A[A-Za-z_][A-Za-z0-9_]{0,63}\z`)
)

// used are the fields of each kind; the others are zero.
var used = []string{"", "Text", "Match Back", "Match Width Back", "Op Parts", "Op Group Names Parts", "Op Group Names Bool Parts", "Parts"}

// signatures are what each sort of node may have as its parts, and what it is then: s a scalar, v a vector, r a range.
var signatures = map[string]string{
	"number":     ":s",
	"vector":     ":v",
	"range":      ":r",
	"of points":  "r:v",
	"of vectors": "v:v",
	"neg":        "s:s v:v",
	"any two":    "ss:s sv:v vs:v vv:v",
	"not ss":     "sv:v vs:v vv:v",
	"two":        "vv:v",
}

func isNumberText(s string) bool {
	return numberForm.MatchString(s) && len(strings.ReplaceAll(s, ".", "")) <= 15
}

// fieldsMayBe asks the fields that a node's kind uses, as long as they have numbers and texts of their own.
func fieldsMayBe(n api.Node) bool {
	ops := []int{0, 0, 0, 0, 12, 5, 13, 0}[n.Kind]
	parts := []int{0, 0, 0, 0, 1, 1, 2, 1}[n.Kind]
	groups := [][]int{{0}, {0}, {0}, {0}, {0}, {0, 1, 2}, {0, 3, 4}, {0}}[n.Kind]
	switch {
	case n.Kind == 1 && !isNumberText(n.Text):
		return false
	case n.Kind == 3 && n.Width < 1, n.Width > 2147483647, n.Back < 0, n.Back > 2147483647:
		return false
	case ops > 0 && (n.Op < 1 || n.Op > ops), n.Parts != parts, !slices.Contains(groups, n.Group):
		return false
	case n.Bool && !strings.Contains(" 5 6 7 8 9 10 ", fmt.Sprintf(" %d ", n.Op)):
		return false
	case n.Group == 0 && len(n.Names) > 0:
		return false
	}
	for _, s := range n.Names {
		if !nameForm.MatchString(s) {
			return false
		}
	}
	return true
}

func isFormOf(n api.Node) bool {
	if n.Kind < 1 || n.Kind > 7 {
		return false
	}
	v := reflect.ValueOf(n)
	for i := range v.NumField() {
		name := v.Type().Field(i).Name
		f := v.Field(i)
		if name == "Kind" || slices.Contains(strings.Fields(used[n.Kind]), name) {
			continue
		}
		if f.Kind() == reflect.Slice && f.Len() > 0 || f.Kind() != reflect.Slice && !f.IsZero() {
			return false
		}
	}
	return fieldsMayBe(n)
}

func matchMayBe(ms []api.Matcher) bool {
	for _, m := range ms {
		if m.Kind < 1 || m.Kind > 4 || !nameForm.MatchString(m.Name) || len(m.Value) > 256 {
			return false
		}
	}
	return len(ms) <= 8
}

func sortOf(n api.Node) string {
	switch n.Kind {
	case 1, 2, 3:
		return []string{"number", "vector", "range"}[n.Kind-1]
	case 4:
		if n.Op <= 10 {
			return "of points"
		}
		return "of vectors"
	case 5:
		return "of vectors"
	case 7:
		return "neg"
	}
	switch {
	case n.Op >= 11 || n.Group != 0:
		return "two"
	case n.Op >= 5 && !n.Bool:
		return "not ss"
	}
	return "any two"
}

// found is a node that is right: its letter, and where the first node that belongs to it stands.
type found struct {
	letter byte
	first  int
}

// modelOf is the chapter's answer.
func modelOf(t []api.Node) (int, int, api.Errno) {
	all := make([]found, len(t))
	for i, n := range t {
		if !isFormOf(n) {
			return 0, i, 190
		}
		first := i
		parts := ""
		for range n.Parts {
			if first == 0 {
				return 0, i, 190
			}
			parts = string(all[first-1].letter) + parts
			first = all[first-1].first
		}
		if !matchMayBe(n.Match) {
			return 0, i, 193
		}
		_, is, ok := strings.Cut(" "+signatures[sortOf(n)]+" ", " "+parts+":")
		if !ok && n.Kind == 6 {
			return 0, i, 192
		}
		if !ok {
			return 0, i, 191
		}
		all[i] = found{is[0], first}
	}
	if len(t) == 0 || len(t) > 4096 || all[len(t)-1].first != 0 {
		return 0, len(t), 190
	}
	return 1 + strings.IndexByte("svr", all[len(t)-1].letter), 0, 0
}

// checkIs holds Check against the model, and tells what it answered.
func checkIs(t *testing.T, l []api.Node) (int, api.Errno) {
	t.Helper()
	kind, n, e := Check(l)
	if wantKind, wantN, wantE := modelOf(l); kind != wantKind || n != wantN || e != wantE {
		t.Errorf("P19.1: Check(%s) of %d nodes: %d, %d, %d; want %d, %d, %d", told(l), len(l), kind, n, e, wantKind, wantN, wantE)
	}
	return kind, e
}

// told is a list as text, for faults.
func told(l []api.Node) string {
	s := fmt.Sprintf("%+v", l)
	return s[:min(len(s), 800)]
}
