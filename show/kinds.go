package show

import (
	"slices"
	"strconv"

	"tidewrack/api"
	"tidewrack/parse"
	"tidewrack/quote"
	"tidewrack/words"
)

// writerOf makes the closure of a node's kind. It keeps of the parts the pieces themselves: their list is the stack's.
func writerOf(n api.Node, parts []piece) writer {
	switch n.Kind {
	case api.NodeNumber:
		return number(n)
	case api.NodeCall:
		return call(n, parts[0])
	case api.NodeAgg:
		return aggregation(n, parts[0])
	case api.NodeBin:
		return binary(n, parts[0], parts[1])
	case api.NodeNeg:
		return negation(parts[0])
	}
	return selection(n)
}

func number(n api.Node) writer {
	return func(p *page) {
		p.add(n.Text)
	}
}

func selection(n api.Node) writer {
	return func(p *page) {
		p.question(n.Match)
		if n.Kind == api.NodeRange {
			p.add("[", span(n.Width), "]")
		}
		if n.Back != 0 {
			p.add(" offset ", span(n.Back))
		}
	}
}

func call(n api.Node, part piece) writer {
	brackets := part.write.inBrackets()
	return func(p *page) {
		p.add(words.Functions()[n.Op])
		brackets(p)
	}
}

func aggregation(n api.Node, part piece) writer {
	brackets := part.write.inBrackets()
	return func(p *page) {
		p.add(words.Aggregations()[n.Op])
		if n.Group != api.GroupNone {
			p.group(n)
			p.add(" ")
		}
		brackets(p)
	}
}

func binary(n api.Node, left, right piece) writer {
	row := rowOf(n)
	writeLeft, writeRight := left.from(row), right.from(row+1)
	return func(p *page) {
		writeLeft(p)
		p.add(" ", words.Operations()[n.Op])
		if n.Bool {
			p.add(" bool")
		}
		if n.Group != api.GroupNone {
			p.group(n)
		}
		p.add(" ")
		writeRight(p)
	}
}

func negation(part piece) writer {
	write := part.from(rowNeg)
	return func(p *page) {
		p.add("-")
		write(p)
	}
}

func (p *page) group(n api.Node) {
	p.add(" ", words.Groups()[n.Group], " ")
	p.list("(", n.Names, ")")
}

// question writes what a select asks for: its name, its matchers, or both.
func (p *page) question(ms []api.Matcher) {
	if len(ms) > 0 && isName(ms[0]) {
		p.add(ms[0].Value)
		ms = ms[1:]
		if len(ms) == 0 {
			return
		}
	}
	var texts []string
	for _, m := range ms {
		texts = append(texts, m.Name+words.MatchKinds()[m.Kind]+quote.Text(m.Value))
	}
	p.list("{", texts, "}")
}

// isName asks whether a matcher's Value stands for all of it: whether a query of nothing but that Value asks so.
func isName(m api.Matcher) bool {
	t, _, _ := parse.Parse(m.Value)
	return len(t) == 1 && slices.Equal(t[0].Match, []api.Matcher{m})
}

// span is a span's text in the greatest unit that it is whole in.
func span(seconds int64) string {
	for _, unit := range "dhm" {
		if length := words.Seconds(byte(unit)); seconds%length == 0 {
			return strconv.FormatInt(seconds/length, 10) + string(unit)
		}
	}
	return strconv.FormatInt(seconds, 10) + "s"
}
