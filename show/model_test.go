package show

import (
	"fmt"
	"reflect"
	"regexp"
	"slices"
	"strconv"
	"strings"
	"testing"

	"tidewrack/api"
	"tidewrack/parse"
	"tidewrack/types"
)

// What chapter 20 says, by other means: a tree is drawn from its last node on, its texts come out of lists of words, and how deep it is is counted as it is drawn.

var (
	funcWords = strings.Fields(". rate increase delta sum_over_time avg_over_time min_over_time max_over_time count_over_time last_over_time wave abs floor")
	aggWords  = strings.Fields(". sum min max avg count")
	opWords   = strings.Fields(". + - * / == != < <= > >= and or unless")
	keptWords = slices.Concat(funcWords[1:], aggWords[1:], strings.Fields("or and unless bool on ignoring by without offset"))
	wordForm  = regexp.MustCompile(`\A[A-Za-z_:][A-Za-z0-9_:]*\z`)
	quoted    = strings.NewReplacer("\"", `\"`, "\\", `\\`, "\n", `\n`)
	control   = regexp.MustCompile(`[\x00-\x09\x0b-\x1f]`)
)

// opRows are the rows of the operations, by their words.
var opRows = map[string]int{"or": 1, "and": 2, "unless": 2, "==": 3, "!=": 3, "<": 3, "<=": 3, ">": 3, ">=": 3, "+": 4, "-": 4, "*": 5, "/": 5}

// drawing is a tree's text, its row, how deep it is nested, and how many nodes it has.
type drawing struct {
	text  string
	row   int
	deep  int
	nodes int
}

func (d drawing) bracketed(is bool) drawing {
	if is {
		d.text = "(" + d.text + ")"
		d.deep++
	}
	return d
}

func groupOf(n api.Node) string {
	if n.Group == 0 {
		return ""
	}
	return " " + []string{"", "by", "without", "on", "ignoring"}[n.Group] + " (" + strings.Join(n.Names, ", ") + ")"
}

func spanOf(seconds int64) string {
	out := ""
	for _, unit := range []struct {
		letter string
		long   int64
	}{{"s", 1}, {"m", 60}, {"h", 3600}, {"d", 86400}} {
		if count := seconds / unit.long; count*unit.long == seconds {
			out = strconv.Itoa(int(count)) + unit.letter
		}
	}
	return out
}

func selectOf(n api.Node) string {
	out := ""
	var texts []string
	for i, m := range n.Match {
		if i == 0 && m.Kind == 1 && m.Name == "__name__" && wordForm.MatchString(m.Value) && !slices.Contains(keptWords, m.Value) {
			out = m.Value
		} else {
			texts = append(texts, m.Name+[]string{"", "=", "!=", "=~", "!~"}[m.Kind]+`"`+quoted.Replace(m.Value)+`"`)
		}
	}
	if out == "" || len(texts) > 0 {
		out += "{" + strings.Join(texts, ", ") + "}"
	}
	if n.Kind == 3 {
		out += "[" + spanOf(n.Width) + "]"
	}
	if n.Back > 0 {
		out += " offset " + spanOf(n.Back)
	}
	return out
}

// draw draws the tree at the end of a list.
func draw(l []api.Node) drawing {
	n := l[len(l)-1]
	ahead := l[:len(l)-1]
	switch n.Kind {
	case 1:
		return drawing{n.Text, 7, 0, 1}
	case 2, 3:
		return drawing{selectOf(n), 7, 0, 1}
	case 4:
		part := draw(ahead).bracketed(true)
		return drawing{funcWords[n.Op] + part.text, 7, part.deep, part.nodes + 1}
	case 5:
		part := draw(ahead).bracketed(true)
		group := groupOf(n)
		if group != "" {
			group += " "
		}
		return drawing{aggWords[n.Op] + group + part.text, 7, part.deep, part.nodes + 1}
	case 7:
		part := draw(ahead)
		part = part.bracketed(part.row < 6)
		return drawing{"-" + part.text, 6, part.deep + 1, part.nodes + 1}
	}
	row := opRows[opWords[n.Op]]
	right := draw(ahead)
	left := draw(ahead[:len(ahead)-right.nodes])
	left, right = left.bracketed(left.row < row), right.bracketed(right.row <= row)
	sign := opWords[n.Op]
	if n.Bool {
		sign += " bool"
	}
	return drawing{left.text + " " + sign + groupOf(n) + " " + right.text, row, max(left.deep, right.deep), left.nodes + right.nodes + 1}
}

// modelOf is the chapter's answer.
func modelOf(l []api.Node) (string, api.Errno) {
	if _, _, e := types.Check(l); e != 0 {
		return "", 200
	}
	for _, n := range l {
		for _, m := range n.Match {
			if control.MatchString(m.Value) {
				return "", 200
			}
		}
	}
	d := draw(l)
	if len(d.text) > 4096 || d.deep > 64 {
		return "", 200
	}
	return d.text, 0
}

// plain has nil for lists that are empty.
func plain(l []api.Node) []api.Node {
	var out []api.Node
	for _, n := range l {
		n.Match = append([]api.Matcher(nil), n.Match...)
		n.Names = append([]string(nil), n.Names...)
		out = append(out, n)
	}
	return out
}

func same(l, other []api.Node) bool {
	return reflect.DeepEqual(plain(l), plain(other))
}

// told is a list as text, for faults.
func told(l []api.Node) string {
	s := fmt.Sprintf("%+v", l)
	return s[:min(len(s), 600)]
}

// showIs holds Show against the model, and P20.2 of what it writes; it tells what was answered.
func showIs(t *testing.T, l []api.Node) (string, api.Errno) {
	t.Helper()
	s, e := Show(l)
	if want, wantE := modelOf(l); s != want || e != wantE {
		t.Errorf("P20.1: Show(%s) of %d nodes: %.300q of %d bytes, %d; want %.300q of %d bytes, %d", told(l), len(l), s, len(s), e, want, len(want), wantE)
	}
	if e == api.OK {
		readIs(t, l, s)
	}
	return s, e
}

// readIs holds P20.2 of a tree and its text.
func readIs(t *testing.T, l []api.Node, s string) {
	t.Helper()
	back, at, e := parse.Parse(s)
	if e != api.OK || !same(back, l) {
		t.Errorf("P20.2: Parse(%.300q): %s, %d, %d; want %s", s, told(back), at, e, told(l))
		return
	}
	if again, e := Show(back); again != s || e != api.OK {
		t.Errorf("P20.2: Show of Parse(%.300q): %.300q, %d", s, again, e)
	}
}
