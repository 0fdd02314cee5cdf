package parse

import (
	"fmt"
	"reflect"
	"regexp"
	"slices"
	"strings"
	"testing"

	"tidewrack/api"
	"tidewrack/lex"
)

// What chapter 18 says, by other means: where reading can't go on is told by all stacks that the grammar leaves, the nodes by two rows of operators and operands.

// grammar is the chapter's, but that a word which is a label's name is a Name.
const grammar = `
query   = or End
or      = and { "or" match and }
and     = cmp { ("and" | "unless") match cmp }
cmp     = sum { ("==" | "!=" | "<" | "<=" | ">" | ">=") [ "bool" ] match sum }
sum     = term { ("+" | "-") match term }
term    = unary { ("*" | "/") match unary }
unary   = "-" unary | one
match   = [ ("on" | "ignoring") names ]
names   = "(" [ Name { "," Name } ] ")"
one     = Number | "(" or ")" | select | Func "(" or ")" | Agg [ ("by" | "without") names ] "(" or ")"
select  = (Word [ matchers ] | matchers) [ "[" Span "]" ] [ "offset" Span ]
matchers = "{" [ matcher { "," matcher } ] "}"
matcher = Name ("=" | "!=" | "=~" | "!~") Text
`

var (
	funcWords = strings.Fields("rate increase delta sum_over_time avg_over_time min_over_time max_over_time count_over_time last_over_time wave abs floor")
	aggWords  = strings.Fields("sum min max avg count")
	opWords   = strings.Fields("+ - * / == != < <= > >= and or unless")
	keptWords = slices.Concat(funcWords, aggWords, strings.Fields("or and unless bool on ignoring by without offset"))
	nameForm  = regexp.MustCompile(`\A[A-Za-z_][A-Za-z0-9_]{0,63}\z`)
	rules     = rulesOf(grammar)
)

// form is a piece of the grammar: a terminal, a rule, a choice '|', a sequence '(', a '[' or a '{'.
type form struct {
	sort  byte
	text  string
	parts []*form
}

func rulesOf(text string) map[string]*form {
	out := map[string]*form{}
	for line := range strings.Lines(strings.TrimSpace(text)) {
		name, rest, _ := strings.Cut(line, "=")
		words := regexp.MustCompile(`"[^"]*"|[A-Za-z]+|[][(){}|]`).FindAllString(rest, -1)
		out[strings.TrimSpace(name)] = choiceOf(&words)
	}
	return out
}

func choiceOf(words *[]string) *form {
	out := &form{sort: '|', parts: []*form{{sort: '('}}}
	for len(*words) > 0 {
		w := (*words)[0]
		*words = (*words)[1:]
		last := out.parts[len(out.parts)-1]
		switch {
		case w == "|":
			out.parts = append(out.parts, &form{sort: '('})
		case strings.Contains(")]}", w):
			return out
		case strings.Contains("([{", w):
			last.parts = append(last.parts, &form{sort: w[0], parts: []*form{choiceOf(words)}})
		case w[0] >= 'a' && w[0] <= 'z':
			last.parts = append(last.parts, &form{sort: 'r', text: w})
		default:
			last.parts = append(last.parts, &form{sort: 't', text: w})
		}
	}
	return out
}

// stack is what is still to come, the next of it on top.
type stack struct {
	top   *form
	under *stack
}

func begin() []*stack {
	return []*stack{{rules["query"], nil}}
}

// behind has the stacks that are left behind a token.
func behind(stacks []*stack, t api.Token) []*stack {
	var out []*stack
	for _, s := range stacks {
		out = append(out, s.behind(t)...)
	}
	return out
}

func (s *stack) behind(t api.Token) []*stack {
	if s == nil {
		return nil
	}
	switch s.top.sort {
	case 't':
		if fits(s.top.text, t) {
			return []*stack{s.under}
		}
		return nil
	case 'r':
		return (&stack{rules[s.top.text], s.under}).behind(t)
	case '|':
		var out []*stack
		for _, p := range s.top.parts {
			out = append(out, (&stack{p, s.under}).behind(t)...)
		}
		return out
	}
	rest := s.under
	if s.top.sort == '{' {
		rest = s
	}
	for _, p := range slices.Backward(s.top.parts) {
		rest = &stack{p, rest}
	}
	out := rest.behind(t)
	if s.top.sort != '(' {
		out = append(out, s.under.behind(t)...)
	}
	return out
}

func fits(terminal string, t api.Token) bool {
	switch terminal {
	case "End":
		return t.Kind == api.TokEnd
	case "Number":
		return t.Kind == api.TokNumber
	case "Span":
		return t.Kind == api.TokSpan
	case "Text":
		return t.Kind == api.TokText
	case "Func":
		return t.Kind == api.TokWord && slices.Contains(funcWords, t.Text)
	case "Agg":
		return t.Kind == api.TokWord && slices.Contains(aggWords, t.Text)
	case "Name":
		return t.Kind == api.TokWord && nameForm.MatchString(t.Text)
	case "Word":
		return t.Kind == api.TokWord && !slices.Contains(keptWords, t.Text)
	}
	return says(t, strings.Trim(terminal, `"`))
}

func says(t api.Token, texts ...string) bool {
	return (t.Kind == api.TokWord || t.Kind == api.TokSign) && slices.Contains(texts, t.Text)
}

// viable is how many tokens may stand as they do.
func viable(tokens []api.Token) int {
	stacks := begin()
	for i, t := range tokens {
		if stacks = behind(stacks, t); len(stacks) == 0 {
			return i
		}
	}
	return len(tokens)
}

// waiting is an operator that waits for its last part, or, of row 0, a bracket that waits for its end, with what it belongs to.
type waiting struct {
	row  int
	node api.Node
}

type yard struct {
	tokens []api.Token
	done   []api.Node
	ops    []waiting
	place  int
	e      api.Errno
}

func (y *yard) peek() api.Token {
	if len(y.tokens) == 0 {
		return api.Token{}
	}
	return y.tokens[0]
}

func (y *yard) next() api.Token {
	t := y.peek()
	y.tokens = y.tokens[min(1, len(y.tokens)):]
	return t
}

func (y *yard) wrong(t api.Token, e api.Errno) {
	if y.e == 0 {
		y.place, y.e = t.At, e
	}
}

// nest puts a bracket or a sign that nests to the operators.
func (y *yard) nest(t api.Token, w waiting) {
	open := 0
	for _, o := range y.ops {
		if o.row == 0 || o.row == 6 {
			open++
		}
	}
	if open == 64 {
		y.wrong(t, 182)
	}
	y.ops = append(y.ops, w)
}

// around opens a node's bracket.
func (y *yard) around(n api.Node) {
	if len(y.tokens) > 0 {
		y.nest(y.next(), waiting{0, n})
	}
}

// settle takes the operators of at least that row to the nodes.
func (y *yard) settle(row int) {
	for len(y.ops) > 0 && y.ops[len(y.ops)-1].row >= row {
		y.done = append(y.done, y.ops[len(y.ops)-1].node)
		y.ops = y.ops[:len(y.ops)-1]
	}
}

func (y *yard) group(n *api.Node) {
	words := []string{"", "by", "without", "on", "ignoring"}
	if !says(y.peek(), words[1:]...) {
		return
	}
	n.Group = slices.Index(words, y.next().Text)
	y.next()
	for len(y.tokens) > 0 {
		if t := y.next(); says(t, ")") {
			return
		} else if t.Kind == api.TokWord {
			n.Names = append(n.Names, t.Text)
		}
	}
}

func (y *yard) put(n *api.Node, t api.Token, m api.Matcher) {
	m.Value = t.Text
	n.Match = append(n.Match, m)
	if len(n.Match) > 8 || len(m.Value) > 256 {
		y.wrong(t, 183)
	}
}

func (y *yard) selects(t api.Token) {
	n := api.Node{Kind: 2}
	if t.Kind == api.TokWord {
		y.put(&n, t, api.Matcher{Kind: 1, Name: "__name__"})
	}
	if t.Kind == api.TokSign || says(y.peek(), "{") {
		var m api.Matcher
		for len(y.tokens) > 0 && !says(t, "}") {
			switch t = y.next(); t.Kind {
			case api.TokWord:
				m.Name = t.Text
			case api.TokSign:
				m.Kind = slices.Index([]string{"", "=", "!=", "=~", "!~"}, t.Text)
			case api.TokText:
				y.put(&n, t, m)
			}
		}
	}
	if says(y.peek(), "[") {
		y.next()
		n.Kind, n.Width = 3, y.next().Span
		y.next()
	}
	if says(y.peek(), "offset") {
		y.next()
		n.Back = y.next().Span
	}
	y.done = append(y.done, n)
}

// operand reads a part, or what stands ahead of one: whether a part is done.
func (y *yard) operand() bool {
	t := y.next()
	switch {
	case says(t, "-"):
		y.nest(t, waiting{6, api.Node{Kind: 7, Parts: 1}})
		return false
	case says(t, "("):
		y.nest(t, waiting{})
		return false
	case says(t, funcWords...):
		y.around(api.Node{Kind: 4, Op: 1 + slices.Index(funcWords, t.Text), Parts: 1})
		return false
	case says(t, aggWords...):
		n := api.Node{Kind: 5, Op: 1 + slices.Index(aggWords, t.Text), Parts: 1}
		y.group(&n)
		y.around(n)
		return false
	case t.Kind == api.TokNumber:
		y.done = append(y.done, api.Node{Kind: 1, Text: t.Text})
	default:
		y.selects(t)
	}
	return true
}

// operator reads what stands behind a part: whether a part is done, too.
func (y *yard) operator() bool {
	t := y.next()
	if t.Kind == api.TokEnd {
		y.settle(1)
		return true
	}
	if says(t, ")") {
		y.settle(1)
		if w := y.ops[len(y.ops)-1]; w.node.Kind != 0 {
			y.done = append(y.done, w.node)
		}
		y.ops = y.ops[:len(y.ops)-1]
		return true
	}
	n := api.Node{Kind: 6, Op: 1 + slices.Index(opWords, t.Text), Parts: 2}
	row := []int{0, 4, 4, 5, 5, 3, 3, 3, 3, 3, 3, 2, 1, 2}[n.Op]
	y.settle(row)
	if says(y.peek(), "bool") {
		y.next()
		n.Bool = true
	}
	y.group(&n)
	y.ops = append(y.ops, waiting{row, n})
	return false
}

// parseOf is the chapter's answer.
func parseOf(s string) ([]api.Node, int, api.Errno) {
	tokens, place, e := lex.Lex(s)
	if e != 0 {
		return nil, place, e
	}
	n := viable(tokens)
	y := yard{tokens: tokens[:n]}
	part := false
	for len(y.tokens) > 0 {
		if part {
			part = y.operator()
		} else {
			part = y.operand()
		}
		if part {
			y.settle(6)
		}
	}
	switch {
	case y.e != 0:
		return nil, y.place, y.e
	case n == len(tokens):
		return y.done, 0, 0
	case tokens[n].Kind == api.TokEnd:
		return nil, len(s), 180
	}
	return nil, tokens[n].At, 181
}

// plain has nil for lists that are empty.
func plain(l []api.Node) []api.Node {
	var out []api.Node
	for _, n := range l {
		n.Match = append([]api.Matcher(nil), n.Match...)
		n.Names = append([]string(nil), n.Names...)
		out = append(out, n)
	}
	return out
}

func same(l, other []api.Node) bool {
	return reflect.DeepEqual(plain(l), plain(other))
}

// told is an answer as text, for faults.
func told(l []api.Node, at int, e api.Errno) string {
	s := fmt.Sprintf("%+v, %d, %d", l, at, e)
	return s[:min(len(s), 600)]
}

// parseIs holds Parse against the model, and tells what it answered.
func parseIs(t *testing.T, s string) ([]api.Node, api.Errno) {
	t.Helper()
	l, at, e := Parse(s)
	if want, wantAt, wantE := parseOf(s); !same(l, want) || at != wantAt || e != wantE {
		t.Errorf("P18.1: Parse(%.300q) of %d bytes: %s; want %s", s, len(s), told(l, at, e), told(want, wantAt, wantE))
	}
	return l, e
}
