package match

import "strings"

// pattern is a compiled one: its alternatives.
type pattern []alternative

// alternative has the texts ahead of, between and behind its stars: one more than there are stars.
type alternative []string

func compile(text string) pattern {
	out := make(pattern, 0, strings.Count(text, "|")+1)
	for one := range strings.SplitSeq(text, "|") {
		out = append(out, strings.Split(one, "*"))
	}
	return out
}

func (p pattern) like(s string) bool {
	for _, a := range p {
		if a.fits(s) {
			return true
		}
	}
	return false
}

// fits takes for each text between stars the first place that it finds: a later one leaves less for the texts behind it, so it need not be tried.
func (a alternative) fits(s string) bool {
	last := len(a) - 1
	if last == 0 {
		return s == a[0]
	}
	s, ok := strings.CutPrefix(s, a[0])
	for _, text := range a[1:last] {
		if !ok {
			return false
		}
		_, s, ok = strings.Cut(s, text)
	}
	return ok && strings.HasSuffix(s, a[last])
}
