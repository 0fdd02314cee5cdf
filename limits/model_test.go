package limits

import (
	"math"
	"regexp"
	"slices"
	"strings"
	"unicode/utf8"

	"tidewrack/api"
)

// What chapter 15 says, by the library's means.

var (
	tenantForm = regexp.MustCompile(`\A[a-z0-9-]{1,32}\z`)
	nameForm   = regexp.MustCompile(`\A[A-Za-z_][A-Za-z0-9_]{0,63}\z`)
)

func normalOf(v uint64) uint64 {
	if v == 0x7ff0000000000002 || !math.IsNaN(math.Float64frombits(v)) {
		return v
	}
	return 0x7ff8000000000000
}

func labelsMayBe(ls []api.Label) bool {
	var names []string
	for _, l := range ls {
		if !nameForm.MatchString(l.Name) || l.Value == "" || len(l.Value) > 256 || !utf8.ValidString(l.Value) {
			return false
		}
		names = append(names, l.Name)
	}
	return len(ls) <= 16 && slices.IsSorted(names) && len(slices.Compact(slices.Clone(names))) == len(names)
}

func checkOf(tenant string, ss []api.Sample, l api.Limits) (int, api.Errno) {
	switch n := len(ss); {
	case !tenantForm.MatchString(tenant):
		return 0, 150
	case n == 0 || n > l.Push || n > 256:
		return 0, 151
	}
	for i, s := range ss {
		switch n := len(s.Labels); {
		case !labelsMayBe(s.Labels) || n == 0 || n > l.Labels:
			return i, 152
		case s.T < -1<<40 || s.T > 1<<40:
			return i, 153
		}
	}
	return 0, 0
}

// What the tests push.

func pairs(texts ...string) []api.Label {
	var out []api.Label
	for i := 0; i < len(texts); i += 2 {
		out = append(out, api.Label{Name: texts[i], Value: texts[i+1]})
	}
	return out
}

// manyPairs has n labels that may be, as far as their number goes.
func manyPairs(n int) []api.Label {
	var out []api.Label
	for i := range n {
		out = append(out, api.Label{Name: "n" + string(rune('A'+i)), Value: "v"})
	}
	return out
}

func sample(at int64, texts ...string) api.Sample {
	return api.Sample{Labels: pairs(texts...), T: at, V: 1}
}

// pool has samples that are right, wrong in one thing, and wrong in two.
func pool() []api.Sample {
	return []api.Sample{
		sample(0, "a", "x"),
		sample(1<<40, "a", "x", "b", "y"),
		sample(-1<<40, "_1", "é"),
		sample(1<<40+1, "a", "x"),
		sample(-1<<40-1, "a", "x", "b", "y"),
		sample(math.MinInt64, "a", "x"),
		sample(math.MaxInt64, "a", "x"),
		sample(0),
		sample(0, "a", "x", "b", "y", "c", "z"),
		sample(0, "b", "x", "a", "y"),
		sample(0, "a", "x", "a", "y"),
		sample(0, "1", "x"),
		sample(0, "", "x"),
		sample(0, "a", ""),
		sample(0, "a", "\xff"),
		sample(0, "a", strings.Repeat("v", 257)),
		sample(0, strings.Repeat("n", 65), "x"),
		{Labels: manyPairs(16)},
		{Labels: manyPairs(17)},
		sample(math.MaxInt64),
		sample(math.MinInt64, "a", ""),
	}
}
