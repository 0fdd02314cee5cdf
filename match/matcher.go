package match

import "tidewrack/api"

// matcher is an api.Matcher made ready: its Value, and that as a pattern where its Kind asks for one.
type matcher struct {
	pattern
	value string
}

func made(m api.Matcher) matcher {
	out := matcher{value: m.Value}
	if m.Kind == api.MatchLike || m.Kind == api.MatchNot {
		out.pattern = compile(m.Value)
	}
	return out
}

func (m matcher) is(v string) bool {
	return v == m.value
}

func (m matcher) isNot(v string) bool {
	return !m.is(v)
}

func (m matcher) unlike(v string) bool {
	return !m.like(v)
}

// question is what a Kind asks of a Value.
type question func(m matcher, v string) bool

// questions is the row of them, by Kind; it has none at 0, which is no Kind.
func questions() [api.MatchNot + 1]question {
	return [...]question{
		api.MatchEq:   matcher.is,
		api.MatchNe:   matcher.isNot,
		api.MatchLike: matcher.like,
		api.MatchNot:  matcher.unlike,
	}
}

// questionOf is nil, if the Kind is none.
func questionOf(kind int) question {
	row := questions()
	if kind < 0 || kind >= len(row) {
		return nil
	}
	return row[kind]
}
