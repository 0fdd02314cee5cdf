package ring

import (
	"fmt"
	"math"
	"slices"
	"testing"

	"tidewrack/api"
)

// TestReplicasWrittenOut: a circle by hand, with like tokens, members that are not active, and both ends of the numbers.
func TestReplicasWrittenOut(t *testing.T) {
	r := ringOf(1, of(0, 2, 0, 40), of(3, 2, 10, 40), of(4, 1, 10, 11, 12), of(9, 2, 10, math.MaxUint32), of(15, 3, 41))
	for _, x := range []struct {
		hash uint32
		want []int
	}{
		{0, []int{0, 3, 9}}, {1, []int{3, 9, 0}}, {9, []int{3, 9, 0}}, {10, []int{3, 9, 0}}, {11, []int{0, 3, 9}}, {12, []int{0, 3, 9}}, {40, []int{0, 3, 9}},
		{41, []int{9, 0, 3}}, {1 << 31, []int{9, 0, 3}}, {math.MaxUint32, []int{9, 0, 3}},
	} {
		for rf := 1; rf <= 3; rf++ {
			if got, e := Replicas(r, x.hash, rf); e != api.OK || !slices.Equal(got, x.want[:rf]) {
				t.Errorf("P13.3: Replicas(%d, %d): %v, %d, not %v", x.hash, rf, got, e, x.want[:rf])
			}
		}
		for rf := 4; rf <= 5; rf++ {
			if got, e := Replicas(r, x.hash, rf); e != api.ErrRingFew || len(got) != 0 {
				t.Errorf("P13.3: Replicas(%d, %d): %v, %d", x.hash, rf, got, e)
			}
		}
	}
}

// TestRoundTheEnd: behind the last token stands the least one.
func TestRoundTheEnd(t *testing.T) {
	r := ringOf(1, of(1, 2, 7), of(2, 2, 5))
	for hash, want := range map[uint32]string{0: "[2 1]", 5: "[2 1]", 6: "[1 2]", 7: "[1 2]", 8: "[2 1]", math.MaxUint32: "[2 1]"} {
		if got, e := Replicas(r, hash, 2); e != api.OK || fmt.Sprint(got) != want {
			t.Errorf("P13.3: Replicas(%d, 2): %v, %d, not %s", hash, got, e, want)
		}
	}
}

// TestSmallCircles: three members of every state, each with some of the three tokens; all hashes near them.
func TestSmallCircles(t *testing.T) {
	var choices []api.Member
	for state := 1; state <= 3; state++ {
		for some := 1; some < 8; some++ {
			var tokens []uint32
			for i, token := range []uint32{0, 2, math.MaxUint32} {
				if some>>i%2 == 1 {
					tokens = append(tokens, token)
				}
			}
			choices = append(choices, of(0, state, tokens...))
		}
	}
	for _, a := range choices {
		for _, b := range choices {
			for _, c := range choices {
				a.ID, b.ID, c.ID = 1, 2, 11
				r := ringOf(1, a, b, c)
				for _, hash := range []uint32{0, 1, 2, 3, math.MaxUint32 - 1, math.MaxUint32} {
					for rf := 1; rf <= 4; rf++ {
						wantReplicas(t, r, hash, rf)
					}
				}
			}
		}
	}
}

func TestNobody(t *testing.T) {
	for _, r := range []api.Ring{{}, {Epoch: 9, Members: []api.Member{}}, ringOf(1, of(1, 1, 5), of(2, 3, 5))} {
		for rf := -1; rf < 8; rf++ {
			want := api.ErrRingFew
			if rf < 1 || rf > 5 {
				want = api.ErrRingForm
			}
			if got, e := Replicas(r, 5, rf); e != want || len(got) != 0 {
				t.Errorf("P13.3: Replicas(%v, 5, %d): %v, %d", r, rf, got, e)
			}
		}
	}
}

func activeIn(r api.Ring) []int {
	var out []int
	for _, m := range r.Members {
		if m.State == api.RingActive {
			out = append(out, m.ID)
		}
	}
	return out
}

// TestReplicasByChance: against the model, and as P13.5 says: unlike each other, and active.
func TestReplicasByChance(t *testing.T) {
	c := newChance(2)
	for range 300 {
		r := c.ring()
		active := activeIn(r)
		all := hashes(r)
		for range 100 {
			all = append(all, c.Uint32())
		}
		for _, hash := range all {
			rf := 1 + c.Intn(5)
			wantReplicas(t, r, hash, rf)
			got, e := Replicas(r, hash, rf)
			if (e == api.OK) != (len(active) >= rf) {
				t.Errorf("P13.3: Replicas(%v, %d, %d): %v, %d", r, hash, rf, got, e)
			}
			if e != api.OK {
				continue
			}
			if len(got) != rf || len(once(got)) != rf {
				t.Errorf("P13.5: Replicas(%v, %d, %d): %v: not unlike each other", r, hash, rf, got)
			}
			for _, id := range got {
				if !slices.Contains(active, id) {
					t.Errorf("P13.5: Replicas(%v, %d, %d): %v: %d is not active", r, hash, rf, got, id)
				}
			}
		}
	}
}

// takesPlace asks whether the new list is the old one with id somewhere in it, and without its last one then.
func takesPlace(old, now []int, id int) bool {
	at := slices.Index(now, id)
	return at >= 0 && slices.Equal(now, slices.Insert(slices.Clone(old), at, id)[:len(old)])
}

// TestFewChange: who joins changes nobody's replicas; who becomes active takes a place in some, one is displaced there.
func TestFewChange(t *testing.T) {
	c := newChance(3)
	for range 400 {
		old := c.ring()
		id := c.Intn(16)
		joined, e := Join(old, id)
		if e != api.OK {
			continue
		}
		now, e := Activate(joined, id)
		if e != api.OK {
			t.Fatalf("P13.2: Activate(%v, %d): %d", joined, id, e)
		}
		for rf := 1; rf <= 5; rf++ {
			wantFewChange(t, old, joined, now, id, rf)
		}
	}
}

func wantFewChange(t *testing.T, old, joined, now api.Ring, id, rf int) {
	t.Helper()
	taken := 0
	for _, hash := range hashes(now) {
		a, e := Replicas(old, hash, rf)
		b, f := Replicas(joined, hash, rf)
		if e != f || !slices.Equal(a, b) {
			t.Errorf("P13.5: %d joins %v: Replicas(%d, %d): %v, %d, not %v, %d", id, old, hash, rf, b, f, a, e)
		}
		if e != api.OK {
			continue
		}
		b, f = Replicas(now, hash, rf)
		switch {
		case f == api.OK && slices.Equal(a, b):
		case f == api.OK && takesPlace(a, b, id):
			taken++
		default:
			t.Errorf("P13.5: %d becomes active in %v: Replicas(%d, %d): %v, %d; they were %v", id, joined, hash, rf, b, f, a)
		}
	}
	if len(activeIn(old)) >= rf && taken == 0 {
		t.Errorf("P13.5: %d becomes active in %v, and keeps nothing", id, joined)
	}
}

// TestFewLeave: who leaves gives its places to others, who are met behind them; who is gone then changes nothing.
func TestFewLeave(t *testing.T) {
	c := newChance(4)
	for range 300 {
		old := c.ring()
		active := activeIn(old)
		if len(active) == 0 {
			continue
		}
		id := active[c.Intn(len(active))]
		left, e := Leave(old, id)
		gone, f := Gone(left, id)
		if e != api.OK || f != api.OK {
			t.Fatalf("P13.2: %d leaves %v: %d, %d", id, old, e, f)
		}
		rf := 1 + c.Intn(5)
		for _, hash := range hashes(old) {
			a, _ := Replicas(old, hash, rf)
			b, e := Replicas(left, hash, rf)
			if e == api.OK && !slices.Equal(a, b) && !takesPlace(b, a, id) {
				t.Errorf("P13.5: %d leaves %v: Replicas(%d, %d): %v; they were %v", id, old, hash, rf, b, a)
			}
			if c, f := Replicas(gone, hash, rf); f != e || !slices.Equal(b, c) {
				t.Errorf("P13.5: %d is gone from %v: Replicas(%d, %d): %v, %d, not %v, %d", id, left, hash, rf, c, f, b, e)
			}
		}
	}
}

// TestCircleOnce: the circle is told once round, and to whoever has seen enough no further.
func TestCircleOnce(t *testing.T) {
	r := ringOf(1, of(1, 2, 3, 9), of(2, 2, 5), of(3, 1, 4))
	for most := range 5 {
		var seen []int
		for id := range circle(r.Members, 4) {
			if len(seen) == most {
				break
			}
			seen = append(seen, id)
		}
		if want := []int{2, 1, 1}[:min(most, 3)]; !slices.Equal(seen, want) {
			t.Errorf("circle: %v, not %v", seen, want)
		}
	}
}
