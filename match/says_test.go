package match

import (
	"math"
	"slices"
	"strings"
	"testing"

	"tidewrack/api"
)

// valueIn is the Value that a matcher asks, by another hand: backwards, so that the first of a Name is the last that is seen.
func valueIn(ls []api.Label, name string) string {
	out := ""
	for i := len(ls) - 1; i >= 0; i-- {
		if ls[i].Name == name {
			out = ls[i].Value
		}
	}
	return out
}

// saysYes is a matcher's definition.
func saysYes(m api.Matcher, ls []api.Label) bool {
	v := valueIn(ls, m.Name)
	return m.Kind == 1 && v == m.Value || m.Kind == 2 && v != m.Value || m.Kind == 3 && isLike(m.Value, v) || m.Kind == 4 && !isLike(m.Value, v)
}

func set(texts ...string) []api.Label {
	var out []api.Label
	for i := 0; i+1 < len(texts); i += 2 {
		out = append(out, api.Label{Name: texts[i], Value: texts[i+1]})
	}
	return out
}

// sets has lists that may be, and others.
func sets() [][]api.Label {
	out := [][]api.Label{nil, {}}
	for _, v := range []string{"", "x", "y", "xy", "*", "x|y", "\xff"} {
		out = append(out, set("a", v), set("b", v), set("a", "x", "b", v), set("a", v, "a", "x"), set("b", "x", "a", v, "", v), set("aa", v, "A", "x"))
	}
	return out
}

func matchers() []api.Matcher {
	var out []api.Matcher
	for _, k := range append(kinds(), 0, 5, -1, math.MinInt, math.MaxInt) {
		for _, name := range []string{"a", "b", "", "1"} {
			for _, v := range []string{"", "x", "y", "*", "x|y", "x*", "|x", "x*|y*"} {
				out = append(out, of(k, name, v))
			}
		}
	}
	return out
}

func wantSays(t *testing.T, ms []api.Matcher, ls []api.Label, want bool) {
	t.Helper()
	if got := Says(ms, ls); got != want {
		t.Errorf("P4.3: Says(%q, %q): %v", told(ms), told(ls), got)
	}
}

func TestSaysExamples(t *testing.T) {
	wantSays(t, []api.Matcher{of(api.MatchEq, "a", "")}, nil, true)
	wantSays(t, []api.Matcher{of(api.MatchNe, "a", "")}, nil, false)
	wantSays(t, []api.Matcher{of(api.MatchLike, "a", "")}, nil, true)
	wantSays(t, []api.Matcher{of(api.MatchLike, "a", "*")}, nil, true)
	wantSays(t, []api.Matcher{of(api.MatchNot, "a", "x|")}, nil, false)
	wantSays(t, []api.Matcher{of(api.MatchNot, "a", "x|")}, set("a", "y"), true)
	wantSays(t, []api.Matcher{of(api.MatchEq, "a", "x*")}, set("a", "xx"), false)
	wantSays(t, []api.Matcher{of(api.MatchEq, "a", "x*")}, set("a", "x*"), true)
	wantSays(t, []api.Matcher{of(api.MatchNe, "a", "x*")}, set("a", "xx"), true)
	wantSays(t, []api.Matcher{of(api.MatchEq, "a", "x|y")}, set("a", "x"), false)
	wantSays(t, []api.Matcher{of(api.MatchEq, "a", "x")}, set("a", "X"), false)
	wantSays(t, []api.Matcher{of(api.MatchEq, "a", "x")}, set("A", "x"), false)
	wantSays(t, []api.Matcher{of(api.MatchEq, "a", "1")}, set("a", "1", "a", "2"), true)
	wantSays(t, []api.Matcher{of(api.MatchEq, "a", "2")}, set("a", "1", "a", "2"), false)
}

func TestSaysEachMatcher(t *testing.T) {
	for _, m := range matchers() {
		for _, ls := range sets() {
			wantSays(t, []api.Matcher{m}, ls, saysYes(m, ls))
		}
	}
}

// TestSaysAll: a list says yes, if all of it say so, whatever their order.
func TestSaysAll(t *testing.T) {
	for _, ls := range sets() {
		wantSays(t, nil, ls, true)
		wantSays(t, []api.Matcher{}, ls, true)
		for _, m := range matchers() {
			for _, n := range matchers() {
				if Says([]api.Matcher{m, n}, ls) != (saysYes(m, ls) && saysYes(n, ls)) {
					t.Fatalf("P4.3: Says(%q and %q, %q)", told(m), told(n), told(ls))
				}
			}
		}
	}
	yes, no := of(api.MatchEq, "a", "x"), of(api.MatchNot, "a", "x*")
	for n := 1; n < 40; n++ {
		ms := slices.Repeat([]api.Matcher{yes}, n)
		wantSays(t, ms, set("a", "x"), true)
		for at := range ms {
			for _, m := range []api.Matcher{no, of(0, "a", "x")} {
				other := slices.Clone(ms)
				other[at] = m
				wantSays(t, other, set("a", "x"), false)
			}
		}
	}
}

func TestSaysNoKind(t *testing.T) {
	for _, k := range noKinds() {
		for _, ls := range sets() {
			for _, v := range []string{"", "x", "*"} {
				wantSays(t, []api.Matcher{of(k, "a", v)}, ls, false)
			}
		}
	}
}

// TestSaysOpposites: P4.4's law of kinds.
func TestSaysOpposites(t *testing.T) {
	for _, m := range matchers() {
		for _, ls := range sets() {
			eq, ne := []api.Matcher{of(api.MatchEq, m.Name, m.Value)}, []api.Matcher{of(api.MatchNe, m.Name, m.Value)}
			like, not := []api.Matcher{of(api.MatchLike, m.Name, m.Value)}, []api.Matcher{of(api.MatchNot, m.Name, m.Value)}
			if Says(eq, ls) == Says(ne, ls) || Says(like, ls) == Says(not, ls) {
				t.Errorf("P4.4: %q, %q: both say one thing of %q", m.Name, m.Value, ls)
			}
			if !strings.ContainsAny(m.Value, "*|") && Says(eq, ls) != Says(like, ls) {
				t.Errorf("P4.4: %q, %q: likeness is not sameness of %q", m.Name, m.Value, ls)
			}
		}
	}
}

// TestSaysLeavesItsLists: nor is what stands behind their ends asked.
func TestSaysLeavesItsLists(t *testing.T) {
	ms := []api.Matcher{of(api.MatchEq, "b", ""), of(api.MatchLike, "a", "x*"), of(api.MatchEq, "b", "y"), of(0, "", "")}
	ls := set("c", "z", "a", "xy", "b", "y", "a", "x")
	wasMs, wasLs := slices.Clone(ms), slices.Clone(ls)
	wantSays(t, ms[:2], ls[:2], true)
	wantSays(t, ms[:3], ls[:2], false)
	wantSays(t, ms[:2], ls[:3], false)
	wantSays(t, ms[:0], ls, true)
	if !slices.Equal(ms, wasMs) || !slices.Equal(ls, wasLs) {
		t.Errorf("R3: Says changed its lists: %q, %q", told(ms), told(ls))
	}
}

// TestSaysLongLists: as many matchers, labels and bytes as one likes end in a time that they explain.
func TestSaysLongLists(t *testing.T) {
	long := strings.Repeat("ab", 100000)
	wantSays(t, []api.Matcher{of(api.MatchLike, "a", strings.Repeat("*ab", 2000)+"*c")}, set("a", long), false)
	wantSays(t, []api.Matcher{of(api.MatchNot, "a", strings.Repeat("*ab", 2000)+"*c")}, set("a", long), true)
	wantSays(t, []api.Matcher{of(api.MatchEq, "a", long)}, set("a", long), true)
	wantSays(t, []api.Matcher{of(api.MatchNe, "a", long)}, set("a", long), false)
	many := slices.Repeat([]api.Matcher{of(api.MatchLike, "a", "x*y|z")}, 100000)
	wantSays(t, many, set("a", "xy"), true)
	wantSays(t, append(many, of(api.MatchNe, "a", "xy")), set("a", "xy"), false)
	ls := append(slices.Repeat(set("b", "x"), 200000), set("a", "y")...)
	wantSays(t, []api.Matcher{of(api.MatchEq, "a", "y")}, ls, true)
}
