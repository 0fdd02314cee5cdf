package head

import (
	"fmt"
	"math/rand"
	"testing"

	"tidewrack/api"
)

// smallSteps has steps of few series, times and values, so that all that can meet does.
func smallSteps() []step {
	var out []step
	for _, value := range []string{"x", "y"} {
		for t := range int64(3) {
			out = append(out, step{sample: at(t, 0, "a", value)})
		}
		out = append(out, step{sample: at(1, 1, "a", value)})
	}
	out = append(out, step{sample: at(1, 1)}, step{sample: at(2, 0, "a", "x", "b", "x")})
	for before := range int64(4) {
		out = append(out, step{cuts: true, before: before})
	}
	return out
}

// TestShortScripts plays every script of four small steps, by the limit.
func TestShortScripts(t *testing.T) {
	steps := smallSteps()
	n := len(steps)
	for number := range 4 * n * n * n * n {
		limit := number % 4
		script := []step{steps[number/4%n], steps[number/4/n%n], steps[number/4/n/n%n], steps[number/4/n/n/n]}
		h, m := New(limit), &model{limit: limit}
		for _, s := range script {
			if wrong := play(h, m, s); wrong != "" {
				t.Fatalf("limit %d, %+v: %s", limit, script, wrong)
			}
		}
		if wrong := fault(h, m); wrong != "" {
			t.Fatalf("limit %d, %+v: %s", limit, script, wrong)
		}
		for _, s := range steps {
			if f, want := h.Fate(s.sample), m.fate(s.sample); !s.cuts && f != want {
				t.Fatalf("P8.2: limit %d, %+v: Fate(%v): %d, not %d", limit, script, s.sample, f, want)
			}
		}
	}
}

func oneOf[X any](r *rand.Rand, all ...X) X {
	return all[r.Intn(len(all))]
}

func anySet(r *rand.Rand) []api.Label {
	var out []api.Label
	for _, name := range []string{"a", "b", "c"} {
		if r.Intn(3) > 0 {
			out = append(out, api.Label{Name: name, Value: oneOf(r, "x", "y", "xy", "x*", "é")})
		}
	}
	return out
}

func anyMatchers(r *rand.Rand) []api.Matcher {
	var out []api.Matcher
	for range r.Intn(4) {
		kind := 1 + r.Intn(4)
		if r.Intn(20) == 0 {
			kind = oneOf(r, 0, 5, -1)
		}
		name := oneOf(r, "a", "a", "b", "b", "c", "c", "d", "")
		out = append(out, of(kind, name, oneOf(r, "", "x", "y", "xy", "x*", "é", "*", "x|y", "|y")))
	}
	return out
}

func anyBound(r *rand.Rand, now int64) int64 {
	if r.Intn(5) == 0 {
		return oneOf[int64](r, first, final, -api.MaxTime, api.MaxTime)
	}
	return now + int64(r.Intn(50)) - 40
}

// anyStep mostly goes forward.
func anyStep(r *rand.Rand, now int64) step {
	if r.Intn(25) == 0 {
		return step{cuts: true, before: now + int64(r.Intn(50)) - 40}
	}
	return step{sample: api.Sample{Labels: anySet(r), T: now + int64(r.Intn(5)) - 3, V: uint64(r.Intn(2))}}
}

// TestLongScripts plays long scripts, and asks with matchers in between.
func TestLongScripts(t *testing.T) {
	for seed := range int64(150) {
		r := rand.New(rand.NewSource(seed))
		limit := []int{1, 5, 40, 1000}[seed%4]
		h, m, now := New(limit), &model{limit: limit}, int64(0)
		for i := range 400 {
			now += int64(r.Intn(3) / 2)
			if wrong := play(h, m, anyStep(r, now)); wrong != "" {
				t.Fatalf("script %d, step %d: %s", seed, i, wrong)
			}
			if r.Intn(4) > 0 {
				continue
			}
			if wrong := fault(h, m); wrong != "" {
				t.Fatalf("script %d, behind step %d: %s", seed, i, wrong)
			}
			ms, from, to := anyMatchers(r), anyBound(r, now), anyBound(r, now)
			what := fmt.Sprintf("P8.3: script %d, behind step %d: Select(%+v, %d, %d)", seed, i, ms, from, to)
			if wrong := unlike(what, h.Select(ms, from, to), m.pick(ms, from, to)); wrong != "" {
				t.Fatal(wrong)
			}
		}
	}
}
