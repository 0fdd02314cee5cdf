package ha

import (
	"math"
	"testing"

	"tidewrack/api"
)

func TestExamples(t *testing.T) {
	a := api.Leader{Replica: "a"}
	for _, x := range []struct {
		has     bool
		l       api.Leader
		replica string
		now     int64
		want    int
	}{{false, api.Leader{}, "a", 0, 2}, {true, a, "a", 4, 0}, {true, a, "a", 5, 1}, {true, a, "b", 29, 3}, {true, a, "b", 30, 2}} {
		if got := Decide(x.has, x.l, x.replica, x.now, 5, 30); got != x.want {
			t.Errorf("P16.2: Decide(%v, %v, %q, %d, 5, 30): %d, not %d", x.has, x.l, x.replica, x.now, got, x.want)
		}
	}
}

// TestNumbers: what the chapter numbers so is named so.
func TestNumbers(t *testing.T) {
	if Heard != 0 || Stamped != 1 || Taken != 2 || Unheard != 3 {
		t.Errorf("P16.2: %d, %d, %d, %d", Heard, Stamped, Taken, Unheard)
	}
}

var replicas = []string{"", "a", "b", "ab", "A", "\x00", "a\x00"}

// decideIs holds Decide against what chapter 16 says of it, for each replica, and that at most one of them is heard without taking.
func decideIs(t *testing.T, has bool, l api.Leader, now, refresh, failover int64) {
	t.Helper()
	heard := 0
	for _, replica := range replicas {
		got := Decide(has, l, replica, now, refresh, failover)
		if want := decideOf(has, l, replica, now, refresh, failover); got != want {
			t.Errorf("P16.2: Decide(%v, %v, %q, %d, %d, %d): %d, not %d", has, l, replica, now, refresh, failover, got, want)
		}
		if got == 0 || got == 1 {
			heard++
		}
	}
	if heard > 1 || !has && heard > 0 || has && heard == 0 {
		t.Errorf("P16.4: register %v %v, now %d, refresh %d, failover %d: %d are heard without taking", has, l, now, refresh, failover, heard)
	}
}

func TestNearMoments(t *testing.T) {
	for _, replica := range replicas {
		for stamp := int64(-3); stamp <= 3; stamp++ {
			for now := int64(-6); now <= 6; now++ {
				for _, refresh := range []int64{math.MinInt64, -2, -1, 0, 1, 2, 3, math.MaxInt64} {
					for _, failover := range []int64{math.MinInt64, -1, 0, 1, 2, 5, math.MaxInt64} {
						for _, has := range []bool{false, true} {
							decideIs(t, has, api.Leader{Replica: replica, Stamp: stamp}, now, refresh, failover)
						}
					}
				}
			}
		}
	}
}

func TestFarMoments(t *testing.T) {
	moments := []int64{-api.MaxTime, -api.MaxTime + 1, -1 << 33, -1 << 32, -1<<31 - 1, -1, 0, 1, 1 << 31, 1 << 32, api.MaxTime - 1, api.MaxTime}
	spans := []int64{math.MinInt64, -2*api.MaxTime - 1, -2 * api.MaxTime, -2*api.MaxTime + 1, -api.MaxTime, -1, 0, 1, 1 << 31, 1 << 32, api.MaxTime, 2*api.MaxTime - 1, 2 * api.MaxTime, 2*api.MaxTime + 1, math.MaxInt64}
	for _, stamp := range moments {
		for _, now := range moments {
			for _, refresh := range spans {
				for _, failover := range spans {
					decideIs(t, true, api.Leader{Replica: "a", Stamp: stamp}, now, refresh, failover)
				}
			}
		}
	}
}

// TestNothingIsRead: where there is no register, what is handed in as its Leader changes nothing.
func TestNothingIsRead(t *testing.T) {
	for _, stamp := range []int64{-api.MaxTime, -1, 0, 1, api.MaxTime} {
		for _, named := range replicas {
			decideIs(t, false, api.Leader{Replica: named, Stamp: stamp}, 0, 5, 30)
		}
	}
}

// TestPlayed: a register that does what is decided names one replica at each moment; another one takes it just when it has been silent long enough.
func TestPlayed(t *testing.T) {
	const refresh, failover = 5, 30
	has, l := false, api.Leader{}
	push := func(replica string, now int64) int {
		got := Decide(has, l, replica, now, refresh, failover)
		if got == Stamped || got == Taken {
			has, l = true, api.Leader{Replica: replica, Stamp: now}
		}
		return got
	}
	for _, x := range []struct {
		now          int64
		first, other int // what a and b are told, a ahead of b
	}{{-2, 2, 3}, {-1, 0, 3}, {2, 0, 3}, {3, 1, 3}, {7, 0, 3}, {8, 1, 3}, {37, 1, 3}} {
		if a, b := push("a", x.now), push("b", x.now); a != x.first || b != x.other {
			t.Errorf("P16.2: at %d: %d, %d, not %d, %d", x.now, a, b, x.first, x.other)
		}
	}
	if b := push("b", 66); b != 3 {
		t.Errorf("P16.2: b ahead of its time: %d", b)
	}
	if b, a := push("b", 67), push("a", 67); b != 2 || a != 3 {
		t.Errorf("P16.2: a was silent from 37 on, and b comes at 67: b %d, a %d", b, a)
	}
	if b, a := push("b", 67), push("a", 96); b != 0 || a != 3 {
		t.Errorf("P16.2: b has taken: b %d, a %d", b, a)
	}
}
