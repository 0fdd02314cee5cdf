package disk

import (
	"math"
	"math/rand"
	"testing"
)

// smallSteps: enough to come to every state that one or two short files, an arming and the power can be in.
func smallSteps() []step {
	return []step{
		{kind: "append", name: "a", more: "x"},
		{kind: "append", name: "a", more: "yz"},
		{kind: "append", name: "b", more: ""},
		{kind: "append", name: "b", more: "uvw"},
		{kind: "append", name: "A", more: "x"},
		{kind: "sync", name: "a"},
		{kind: "sync", name: "b"},
		{kind: "rename", name: "a", more: "b"},
		{kind: "rename", name: "b", more: "b"},
		{kind: "rename", name: "a", more: ""},
		{kind: "delete", name: "a"},
		{kind: "arm", n: 0, keep: 1},
		{kind: "arm", n: 1, keep: 2},
		{kind: "arm", n: -1, keep: 1},
		{kind: "off", keep: -1},
		{kind: "off", keep: 1},
		{kind: "on"},
	}
}

// P6.1 to P6.5: every script of up to five of the small steps, against the model, the disk cloned at each fork.
func TestAllShortScripts(t *testing.T) {
	steps := smallSteps()
	depth := 5
	if testing.Short() {
		depth = 4
	}
	var walk func(d *Disk, m *model, left int, gone []step)
	walk = func(d *Disk, m *model, left int, gone []step) {
		if left == 0 {
			return
		}
		for _, s := range steps {
			c, n := d.Clone(), m.clone()
			path := append(gone[:len(gone):len(gone)], s)
			if got, want := s.onDisk(c), s.onModel(n); got != want {
				t.Fatalf("P6.2: %v: %d; want %d", path, got, want)
			}
			if how := unlike(c, n, "a", "b"); how != "" {
				t.Fatalf("%v: %s", path, how)
			}
			walk(c, n, left-1, path)
		}
		if how := unlike(d, m, "a", "b"); how != "" {
			t.Fatalf("P6.4: %v: what its clones did has changed it: %s", gone, how)
		}
	}
	walk(New(), newModel(), depth, nil)
}

func pick(r *rand.Rand, of ...string) string {
	return of[r.Intn(len(of))]
}

func anyStep(r *rand.Rand, names []string) step {
	s := step{name: pick(r, names...), more: pick(r, names...), n: r.Intn(6) - 1, keep: r.Intn(12) - 2}
	switch r.Intn(20) {
	case 0:
		s.kind = "arm"
	case 1:
		s.kind = "off"
	case 2, 3, 4:
		s.kind = "on"
	case 5, 6, 7:
		s.kind = "sync"
	case 8, 9, 10:
		s.kind = "rename"
	case 11:
		s.kind = "delete"
	default:
		s.kind, s.more = "append", pick(r, "", "p", "qr", "stu", "a longer one than these")
	}
	if r.Intn(8) == 0 {
		s.keep = []int{math.MinInt, math.MaxInt, math.MaxInt - 1, -1}[r.Intn(4)]
	}
	return s
}

// P6.1 to P6.5: long scripts, against the model; now and then the script goes on with a clone, and what was cloned is looked at again later.
func TestLongScripts(t *testing.T) {
	names := []string{"a", "b", "a/b", "a/b.c-9", "0", "-", "A", ""}
	for seed := range int64(300) {
		r := rand.New(rand.NewSource(seed))
		d, m := New(), newModel()
		oldD, oldM := New(), newModel()
		for range 300 {
			both(t, d, m, anyStep(r, names), names...)
			if r.Intn(30) != 0 {
				continue
			}
			if how := unlike(oldD, oldM, names...); how != "" {
				t.Fatalf("P6.4: seed %d: a disk that was cloned: %s", seed, how)
			}
			oldD, oldM = d, m
			d, m = d.Clone(), m.clone()
			if r.Intn(2) == 0 {
				d, m, oldD, oldM = oldD, oldM, d, m
			}
		}
	}
}

// beginning: is a, of at least so many bytes, a beginning of b?
func beginning(a, b string, least int) bool {
	return len(a) >= least && len(a) <= len(b) && b[:len(a)] == a
}

// P6.5: what had been synced stays through power cuts, and what stays is a beginning of what stood there.
func TestSyncedBytesStay(t *testing.T) {
	for seed := range int64(200) {
		r := rand.New(rand.NewSource(seed))
		d := New()
		whole, synced := "", 0
		for range 200 {
			switch r.Intn(6) {
			case 0:
				if d.Sync("f") == 0 {
					synced = len(whole)
				}
			case 1:
				d.Off(r.Intn(20) - 3)
				d.On()
			case 2:
				d.Arm(r.Intn(3), r.Intn(20)-3)
			default:
				more := pick(r, "", "k", "lm", "nopq")
				d.Append("f", []byte(more))
				whole += more
			}
			d.On()
			b, _ := d.Read("f")
			if !beginning(string(b), whole, synced) {
				t.Fatalf("P6.5: %q is left of %q, of which %d bytes were synced", b, whole, synced)
			}
			whole = string(b)
		}
	}
}
