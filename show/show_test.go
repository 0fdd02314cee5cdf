package show

import (
	"testing"

	"tidewrack/api"
	"tidewrack/parse"
)

func treeOf(t *testing.T, query string) []api.Node {
	t.Helper()
	l, at, e := parse.Parse(query)
	if e != api.OK {
		t.Fatalf("Parse(%.300q): %d, %d", query, at, e)
	}
	return l
}

// queryIs wants a query's tree to be written so.
func queryIs(t *testing.T, query, want string) {
	t.Helper()
	l := treeOf(t, query)
	if s, e := Show(l); s != want || e != api.OK {
		t.Errorf("P20.1: %.300q: %.300q, %d; want %.300q", query, s, e, want)
	}
	showIs(t, l)
}

// refusedIs wants a tree to be refused.
func refusedIs(t *testing.T, l []api.Node) {
	t.Helper()
	if s, e := Show(l); s != "" || e != api.ErrShowTree {
		t.Errorf("P20.1: Show(%s) of %d nodes: %.300q, %d; want %d", told(l), len(l), s, e, api.ErrShowTree)
	}
	showIs(t, l)
}

func TestExamples(t *testing.T) {
	for query, want := range map[string]string{
		`sum by(a)(rate(x{b="c"}[300s]))/2`: `sum by (a) (rate(x{b="c"}[5m])) / 2`,
		"(a+b)*-c":                          "(a + b) * -c",
		`{__name__="or"}`:                   `{__name__="or"}`,
		"{}":                                "{}",

		"((7))":                   "7",
		"0.10":                    "0.10",
		"level{}":                 "level",
		`{__name__="level"}[60s]`: "level[1m]",
		`{__name__="level",job!="a"} offset 120m`: `level{job!="a"} offset 2h`,
		"x[7d]offset 36h":                         "x[7d] offset 36h",
		"sum (x)":                                 "sum(x)",
		"sum by () (x)":                           "sum by () (x)",
		"max without(b,a)((x))":                   "max without (b, a) (x)",
		"-  x":                                    "-x",
		"-(1)":                                    "-1",
		"a-(-b)":                                  "a - -b",
		"a<bool on()b":                            "a < bool on () b",
		"a unless ignoring(x,y)(b)":               "a unless ignoring (x, y) b",
		"a - on (x) (b - c)":                      "a - on (x) (b - c)",
		"a * (b / c) / d":                         "a * (b / c) / d",
		"abs((a or b))":                           "abs(a or b)",
		`{a="\n\\\""}`:                            `{a="\n\\\""}`,
	} {
		queryIs(t, query, want)
	}
}

// TestTyped: what Parse gives and types doesn't take isn't written.
func TestTyped(t *testing.T) {
	for _, query := range []string{"rate(x)", "1 == 2", "x and 1", "sum(1)", "-x[5m]", "x[5m] + 1", "1 + on (a) x"} {
		refusedIs(t, treeOf(t, query))
	}
}
