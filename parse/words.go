package parse

import (
	"slices"

	"tidewrack/api"
	"tidewrack/words"
)

// hasMeaning asks whether a token is a word or a sign: a text may say the same as one, and means nothing by it.
func hasMeaning(t api.Token) bool {
	return t.Kind == api.TokWord || t.Kind == api.TokSign
}

// numberIn is 0 for what is not in the row.
func numberIn(row []string, t api.Token) int {
	if !hasMeaning(t) {
		return 0
	}
	return max(slices.Index(row, t.Text), 0)
}

// isKept asks whether a word is none that a select may begin with.
func isKept(word api.Token) bool {
	for _, row := range [...][]string{words.Functions(), words.Aggregations(), words.Operations(), words.Groups()} {
		if numberIn(row, word) != 0 {
			return true
		}
	}
	return word.Text == "bool" || word.Text == "offset"
}
