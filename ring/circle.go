package ring

import (
	"cmp"
	"iter"
	"slices"

	"tidewrack/api"
)

// place is where a member stands on the circle: at each of its tokens.
type place struct {
	token uint32
	id    int
}

// circle tells, once round, the member of each token, from the first token that is not below the hash on.
func circle(ms []api.Member, hash uint32) iter.Seq[int] {
	places := activePlaces(ms)
	first, _ := slices.BinarySearchFunc(places, place{token: hash}, byToken)
	return func(yield func(int) bool) {
		for _, p := range slices.Concat(places[first:], places[:first]) {
			if !yield(p.id) {
				return
			}
		}
	}
}

func activePlaces(ms []api.Member) []place {
	var out []place
	for _, m := range ms {
		if m.State != api.RingActive {
			continue
		}
		for _, token := range m.Tokens {
			out = append(out, place{token, m.ID})
		}
	}
	slices.SortFunc(out, byToken)
	return out
}

func byToken(a, b place) int {
	return cmp.Or(cmp.Compare(a.token, b.token), cmp.Compare(a.id, b.id))
}
