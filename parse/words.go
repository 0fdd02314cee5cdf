package parse

import (
	"slices"

	"tidewrack/api"
)

// The rows of words and signs: the number of each is its place in its row. None is at 0.

func functions() []string {
	return []string{
		api.FuncRate:     "rate",
		api.FuncIncrease: "increase",
		api.FuncDelta:    "delta",
		api.FuncSum:      "sum_over_time",
		api.FuncAvg:      "avg_over_time",
		api.FuncMin:      "min_over_time",
		api.FuncMax:      "max_over_time",
		api.FuncCount:    "count_over_time",
		api.FuncLast:     "last_over_time",
		api.FuncWave:     "wave",
		api.FuncAbs:      "abs",
		api.FuncFloor:    "floor",
	}
}

func aggregations() []string {
	return []string{
		api.AggSum:   "sum",
		api.AggMin:   "min",
		api.AggMax:   "max",
		api.AggAvg:   "avg",
		api.AggCount: "count",
	}
}

func operations() []string {
	return []string{
		api.OpAdd: "+",
		api.OpSub: "-",
		api.OpMul: "*",
		api.OpDiv: "/",
		api.OpEq:  "==",
		api.OpNe:  "!=",
		api.OpLt:  "<",
		api.OpLe:  "<=",
		api.OpGt:  ">",
		api.OpGe:  ">=",
		api.OpAnd: "and",
		api.OpOr:  "or",
		api.OpBut: "unless",
	}
}

func groups() []string {
	return []string{
		api.GroupBy:      "by",
		api.GroupWithout: "without",
		api.GroupOn:      "on",
		api.GroupIgnore:  "ignoring",
	}
}

func matchKinds() []string {
	return []string{
		api.MatchEq:   "=",
		api.MatchNe:   "!=",
		api.MatchLike: "=~",
		api.MatchNot:  "!~",
	}
}

// hasMeaning asks whether a token is a word or a sign: a text may say the same as one, and means nothing by it.
func hasMeaning(t api.Token) bool {
	return t.Kind == api.TokWord || t.Kind == api.TokSign
}

// numberIn is 0 for what is not in the row.
func numberIn(row []string, t api.Token) int {
	if !hasMeaning(t) {
		return 0
	}
	return max(slices.Index(row, t.Text), 0)
}

// isKept asks whether a word is none that a select may begin with.
func isKept(word api.Token) bool {
	for _, row := range [...][]string{functions(), aggregations(), operations(), groups()} {
		if numberIn(row, word) != 0 {
			return true
		}
	}
	return word.Text == "bool" || word.Text == "offset"
}
