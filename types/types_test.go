package types

import (
	"testing"

	"tidewrack/api"
	"tidewrack/parse"
)

func treeOf(t *testing.T, query string) []api.Node {
	t.Helper()
	l, at, e := parse.Parse(query)
	if e != api.OK {
		t.Fatalf("Parse(%q): %d, %d", query, at, e)
	}
	return l
}

func TestExamples(t *testing.T) {
	for query, want := range map[string]int{
		"x":                api.TypeVector,
		"1 + 2":            api.TypeScalar,
		"x[5m]":            api.TypeRange,
		"rate(x[5m]) > 1":  api.TypeVector,
		"1 == bool 2":      api.TypeScalar,
		"abs(x) and y":     api.TypeVector,
		"-1":               api.TypeScalar,
		"-x":               api.TypeVector,
		"sum by (a) (x)":   api.TypeVector,
		"x == on (a) y":    api.TypeVector,
		"wave(x[1h]) != 1": api.TypeVector,
	} {
		l := treeOf(t, query)
		if kind, n, e := Check(l); kind != want || n != 0 || e != api.OK {
			t.Errorf("P19.1: %q: %d, %d, %d; want type %d", query, kind, n, e, want)
		}
		checkIs(t, l)
	}
	for query, want := range map[string]struct {
		n int
		e api.Errno
	}{
		"rate(x)":                 {1, api.ErrTypeArg},
		"1 == 2":                  {2, api.ErrTypeOp},
		"x and 1":                 {2, api.ErrTypeOp},
		"sum(1)":                  {1, api.ErrTypeArg},
		"-x[5m]":                  {1, api.ErrTypeArg},
		"1 + sum(2)":              {2, api.ErrTypeArg},
		"x[5m] + x[5m]":           {2, api.ErrTypeOp},
		"x + y + on (a) 2":        {4, api.ErrTypeOp},
		"abs(x[5m])":              {1, api.ErrTypeArg},
		"rate(x[5m]) - rate(x)":   {3, api.ErrTypeArg},
		"(1 < bool 2) < (3 or 4)": {5, api.ErrTypeOp},
	} {
		l := treeOf(t, query)
		if kind, n, e := Check(l); kind != 0 || n != want.n || e != want.e {
			t.Errorf("P19.1: %q: %d, %d, %d; want %d, %d", query, kind, n, e, want.n, want.e)
		}
		checkIs(t, l)
	}
}
