package match

import (
	"fmt"
	"math"
	"slices"
	"strings"
	"testing"

	"tidewrack/api"
)

func kinds() []int {
	return []int{api.MatchEq, api.MatchNe, api.MatchLike, api.MatchNot}
}

// noKinds has numbers beside the kinds, and some whose lowest bits are a kind's.
func noKinds() []int {
	out := []int{math.MinInt, math.MinInt + 1, math.MaxInt, 1<<32 + 1, 1<<62 + 3, -1 << 32, 1<<16 + 2, 1<<8 + 4}
	for k := -300; k <= 300; k++ {
		if !slices.Contains(kinds(), k) {
			out = append(out, k)
		}
	}
	return out
}

func of(kind int, name, value string) api.Matcher {
	return api.Matcher{Kind: kind, Name: name, Value: value}
}

// told is what a fault tells of matchers and labels, cut where it is long.
func told(x any) string {
	s := fmt.Sprintf("%+v", x)
	return s[:min(len(s), 300)]
}

func wantCheck(t *testing.T, ms []api.Matcher, want api.Errno) {
	t.Helper()
	if e := Check(ms); e != want {
		t.Errorf("P4.1: Check(%q): %d, not %d", told(ms), e, want)
	}
}

func TestCheckKinds(t *testing.T) {
	for _, k := range kinds() {
		wantCheck(t, []api.Matcher{of(k, "a", "x")}, api.OK)
		wantCheck(t, []api.Matcher{of(k, "a", "")}, api.OK)
	}
	for _, k := range noKinds() {
		wantCheck(t, []api.Matcher{of(k, "a", "x")}, api.ErrMatchForm)
	}
	wantCheck(t, []api.Matcher{{}}, api.ErrMatchForm)
}

const nameBytes = "_0123456789ABCDEFGHIJKLMNOPQRSTUVWXYZabcdefghijklmnopqrstuvwxyz"

// TestCheckNames: each byte by itself, at the beginning and behind it.
func TestCheckNames(t *testing.T) {
	wanted := func(may bool) api.Errno {
		if may {
			return api.OK
		}
		return api.ErrMatchForm
	}
	for x := range 256 {
		one := string([]byte{byte(x)})
		inside := strings.Contains(nameBytes, one)
		first := inside && !strings.Contains("0123456789", one)
		for _, k := range kinds() {
			wantCheck(t, []api.Matcher{of(k, one, "x")}, wanted(first))
			wantCheck(t, []api.Matcher{of(k, one+"a", "x")}, wanted(first))
			wantCheck(t, []api.Matcher{of(k, "a"+one, "x")}, wanted(inside))
			wantCheck(t, []api.Matcher{of(k, "__"+one+"0", "x")}, wanted(inside))
		}
	}
	for _, name := range []string{"a", "A", "_", "__name__", "Z9", strings.Repeat("n", api.MaxName)} {
		wantCheck(t, []api.Matcher{of(api.MatchEq, name, "x")}, api.OK)
	}
	for _, name := range []string{"", "1", "9a", "a-b", "a b", "a*", "a|b", "é", "a\n", "a\x00", strings.Repeat("n", api.MaxName+1), strings.Repeat("n", 5000)} {
		wantCheck(t, []api.Matcher{of(api.MatchEq, name, "x")}, api.ErrMatchForm)
	}
}

// TestCheckValues: a Value may be any bytes, as many as MaxPattern.
func TestCheckValues(t *testing.T) {
	for _, k := range kinds() {
		for x := range 256 {
			wantCheck(t, []api.Matcher{of(k, "a", string([]byte{byte(x)}))}, api.OK)
		}
		for _, v := range []string{"\xff\xfe", "\xed\xa0\x80", "a|b*", "||", "**", "\x00\n"} {
			wantCheck(t, []api.Matcher{of(k, "a", v)}, api.OK)
		}
		for _, one := range []string{"v", "*", "|", "\xff"} {
			for n, want := range map[int]api.Errno{0: api.OK, 1: api.OK, 255: api.OK, 256: api.OK, 257: api.ErrMatchForm, 512: api.ErrMatchForm, 70000: api.ErrMatchForm} {
				wantCheck(t, []api.Matcher{of(k, "a", strings.Repeat(one, n))}, want)
			}
		}
		wantCheck(t, []api.Matcher{of(k, "a", strings.Repeat("é", 128))}, api.OK)
		wantCheck(t, []api.Matcher{of(k, "a", strings.Repeat("é", 129))}, api.ErrMatchForm)
	}
}

// wrong has matchers each of which has one fault, and one that has all.
func wrong() []api.Matcher {
	return []api.Matcher{of(0, "a", "x"), of(5, "a", "x"), of(1, "", "x"), of(1, "1", "x"), of(1, "a", strings.Repeat("v", 257)), of(-1, "-", strings.Repeat("v", 257))}
}

// TestCheckEachPlace: one that is wrong is found wherever it stands, and too many are told ahead of it.
func TestCheckEachPlace(t *testing.T) {
	wantCheck(t, nil, api.OK)
	wantCheck(t, []api.Matcher{}, api.OK)
	for n := 1; n <= 2*api.MaxMatchers; n++ {
		ms := slices.Repeat([]api.Matcher{of(api.MatchLike, "a", "x*|y")}, n)
		want, wantWrong := api.OK, api.ErrMatchForm
		if n > api.MaxMatchers {
			want, wantWrong = api.ErrMatchMany, api.ErrMatchMany
		}
		wantCheck(t, ms, want)
		for at := range ms {
			for _, m := range wrong() {
				other := slices.Clone(ms)
				other[at] = m
				wantCheck(t, other, wantWrong)
			}
		}
	}
	wantCheck(t, make([]api.Matcher, 100000), api.ErrMatchMany)
}

// TestCheckLeavesItsList: nor is what stands behind the list's end asked.
func TestCheckLeavesItsList(t *testing.T) {
	room := slices.Repeat([]api.Matcher{of(api.MatchNot, "a", "x")}, 3)
	room = append(room, slices.Repeat(wrong(), 3)...)
	was := slices.Clone(room)
	wantCheck(t, room[:3], api.OK)
	wantCheck(t, room[:0], api.OK)
	if !slices.Equal(room, was) {
		t.Errorf("R3: Check changed its list: %q", told(room))
	}
}
