// Package words has the words and signs of queries: what the layers share that read and write them. The number of each (package api) is its place in its row; none is at 0.
package words

import "tidewrack/api"

func Functions() []string {
	return []string{
		api.FuncRate:     "rate",
		api.FuncIncrease: "increase",
		api.FuncDelta:    "delta",
		api.FuncSum:      "sum_over_time",
		api.FuncAvg:      "avg_over_time",
		api.FuncMin:      "min_over_time",
		api.FuncMax:      "max_over_time",
		api.FuncCount:    "count_over_time",
		api.FuncLast:     "last_over_time",
		api.FuncWave:     "wave",
		api.FuncAbs:      "abs",
		api.FuncFloor:    "floor",
	}
}

func Aggregations() []string {
	return []string{
		api.AggSum:   "sum",
		api.AggMin:   "min",
		api.AggMax:   "max",
		api.AggAvg:   "avg",
		api.AggCount: "count",
	}
}

func Operations() []string {
	return []string{
		api.OpAdd: "+",
		api.OpSub: "-",
		api.OpMul: "*",
		api.OpDiv: "/",
		api.OpEq:  "==",
		api.OpNe:  "!=",
		api.OpLt:  "<",
		api.OpLe:  "<=",
		api.OpGt:  ">",
		api.OpGe:  ">=",
		api.OpAnd: "and",
		api.OpOr:  "or",
		api.OpBut: "unless",
	}
}

func Groups() []string {
	return []string{
		api.GroupBy:      "by",
		api.GroupWithout: "without",
		api.GroupOn:      "on",
		api.GroupIgnore:  "ignoring",
	}
}

func MatchKinds() []string {
	return []string{
		api.MatchEq:   "=",
		api.MatchNe:   "!=",
		api.MatchLike: "=~",
		api.MatchNot:  "!~",
	}
}

// Seconds is how long a span's unit is: none, if the letter is no unit's.
func Seconds(unit byte) int64 {
	switch unit {
	case 's':
		return 1
	case 'm':
		return 60
	case 'h':
		return 60 * 60
	case 'd':
		return 24 * 60 * 60
	}
	return 0
}
