package kv

import (
	"fmt"
	"math/rand"
	"slices"
	"strings"
	"testing"

	"tidewrack/api"
	"tidewrack/disk"
	"tidewrack/peek"
)

// oldOrNew: what stands there behind a Set in which the power went, asked of the store that did it and of one that is opened anew.
func oldOrNew(t *testing.T, what string, d *disk.Disk, s *Store, e api.Errno, old, fresh value) {
	t.Helper()
	for _, s := range []*Store{s, opened(t, d)} {
		b, v, f := s.Get("a")
		got := value{v, string(b)}
		if f != api.OK || got != old && got != fresh || e == api.OK && got != fresh {
			t.Fatalf("P12.5: %s: %.20q, %d, %d beside %d", what, b, v, f, e)
		}
		old, fresh = got, got
	}
}

func TestPowerGoesInASet(t *testing.T) {
	for olds := range uint64(3) {
		for writes := range 4 {
			for keep := -1; keep < 30; keep++ {
				d := disk.New()
				s := opened(t, d)
				sets(t, s, "b", "other", 0)
				for v := range olds {
					sets(t, s, "a", "old", v)
				}
				d.Arm(writes, keep)
				v, e := s.Set("a", []byte("newer"), olds)
				if (e == api.OK) != (writes >= 2) || e != api.OK && (v != 0 || e != api.ErrDiskOff) {
					t.Fatalf("P12.3: %d writes: %d, %d", writes, v, e)
				}
				d.On()
				d.Arm(-1, 0)
				oldOrNew(t, fmt.Sprint(writes, ", ", keep), d, s, e, value{olds, strings.Repeat("old", int(min(olds, 1)))}, value{olds + 1, "newer"})
				tells(t, "P12.5", s, "b", "other", 1)
			}
		}
	}
}

// TestPowerGoesInACut: the change that it comes behind is told as refused, and holds wholly; nothing else changes.
func TestPowerGoesInACut(t *testing.T) {
	base, _ := filled(t, 64)
	opened(t, base).Set("k0", nil, 1)
	full := base.Clone()
	opened(t, full).Set("a", []byte("new"), 0)
	for writes := uint64(0); writes < full.Writes()-base.Writes(); writes++ {
		for _, keep := range []int{-1, 0, 1, 5, 100, 5000, 1 << 30} {
			d := base.Clone()
			s := opened(t, d)
			d.Arm(int(writes), keep)
			v, e := s.Set("a", []byte("new"), 0)
			if v != 0 || e != api.ErrDiskOff || d.Up() {
				t.Fatalf("P12.3: %d writes: %d, %d", writes, v, e)
			}
			d.On()
			old := value{}
			if writes >= 2 {
				old = value{1, "new"}
			}
			oldOrNew(t, fmt.Sprint(writes, ", ", keep), d, s, e, old, value{1, "new"})
			for _, s := range []*Store{s, opened(t, d)} {
				tells(t, "P12.5", s, "k0", "", 2)
				tells(t, "P12.5", s, "k37", strings.Repeat("v", 4096), 1)
				if n := len(s.Keys("k")); n != 64 {
					t.Fatalf("P12.5: %d keys", n)
				}
			}
		}
	}
}

// TestGoesOnBehindAnError: also a store that is not opened anew keeps P12.5: nothing that it answers is written behind something torn.
func TestGoesOnBehindAnError(t *testing.T) {
	for writes := range 2 {
		for keep := -1; keep < 30; keep++ {
			for first := range 3 {
				x := newTwin(t, disk.New())
				x.set("a", "1", 0)
				x.both("arm", func(d *disk.Disk) { d.Arm(writes, keep) })
				x.set("a", "2", 1)
				x.ask("a")
				x.both("on", (*disk.Disk).On)
				switch first {
				case 0:
					x.get("a")
				case 1:
					x.keys("")
				}
				x.set("a", "3", 1)
				x.set("a", "4", 2)
				x.set("b", "5", 0)
				x.ask("a", "b")
				x.open()
				x.ask("a", "b")
				tells(t, "P12.5", x.s, "b", "5", 1)
			}
		}
	}
}

// TestPowerGoesWhileItMends: a store that finds its log torn, and loses power again, tells so.
func TestPowerGoesWhileItMends(t *testing.T) {
	for writes := range 5 {
		d := disk.New()
		x := newTwin(t, d)
		x.set("a", "1", 0)
		x.both("arm", func(d *disk.Disk) { d.Arm(0, 5) })
		x.set("a", "2", 1)
		for range 3 {
			x.both("on", (*disk.Disk).On)
			x.both("arm", func(d *disk.Disk) { d.Arm(writes, 5) })
			x.set("b", "3", 0)
			x.ask("a", "b")
		}
		x.both("on", (*disk.Disk).On)
		x.both("arm", func(d *disk.Disk) { d.Arm(-1, 0) })
		x.ask("a", "b")
	}
}

// TestPowerGoesBetweenCalls: all that was answered is safe, so a store needs not be opened anew.
func TestPowerGoesBetweenCalls(t *testing.T) {
	x := newTwin(t, disk.New())
	for i := range uint64(200) {
		x.set("a", strings.Repeat("x", int(i)*53), i)
		x.both("off", func(d *disk.Disk) { d.Off(int(i) % 3) })
		x.ask("a")
		x.set("a", "refused", i+1)
		x.both("on", (*disk.Disk).On)
		x.ask("a")
	}
	x.open()
	x.ask("a")
}

// TestOfTwoSetsOneHolds: P12.5, whoever comes first, and whatever the disk does to the first one.
func TestOfTwoSetsOneHolds(t *testing.T) {
	for writes := -1; writes < 2; writes++ {
		for keep := -1; keep < 30; keep++ {
			d := disk.New()
			s := opened(t, d)
			sets(t, s, "a", "old", 0)
			d.Arm(writes, keep)
			_, e := s.Set("a", []byte("first"), 1)
			d.On()
			v, f := s.Set("a", []byte("second"), 1)
			want := "second"
			if f != api.OK {
				want = "first"
			}
			if v != 2 || f != api.OK && f != api.ErrKvVersion || e == api.OK && f == api.OK {
				t.Fatalf("P12.5: %d, then %d, %d", e, v, f)
			}
			tells(t, "P12.5", opened(t, d), "a", want, 2)
		}
	}
}

// ledger: of each key what stands there, by the words of P12.5 alone; behind a call that failed it may be one of two.
type ledger map[string][]value

func (l ledger) of(key string) []value {
	if vs := l[key]; len(vs) > 0 {
		return vs
	}
	return []value{{}}
}

// settle: what the store tells has to be one of these; it is the one from then on.
func (l ledger) settle(t *testing.T, s *Store, key string) value {
	t.Helper()
	b, v, e := s.Get(key)
	got := value{v, string(b)}
	if e != api.OK || !slices.Contains(l.of(key), got) {
		t.Fatalf("P12.5: %q: %.40q, %d, %d; it may be %.100v", key, b, v, e, l.of(key))
	}
	l[key] = []value{got}
	return got
}

// TestLedger: long scripts in which the power goes in any write, those of Open and of Cut with them.
func TestLedger(t *testing.T) {
	keys := []string{"a", "b", "a/b", "ring"}
	for seed := range int64(60) {
		r := rand.New(rand.NewSource(seed))
		d, l := disk.New(), ledger{}
		s := opened(t, d)
		for i := range 300 {
			key := keys[r.Intn(len(keys))]
			stands := l.settle(t, s, key)
			switch r.Intn(8) {
			case 0:
				d.Arm(r.Intn(9), r.Intn(6000)-1)
				continue
			case 1:
				d.Off(r.Intn(60) - 1)
				s = goesOn(t, d, s, r)
				continue
			case 2:
				if v, e := s.Set(key, nil, stands.version+1+uint64(r.Intn(3))); v != stands.version || e != api.ErrKvVersion {
					t.Fatalf("P12.3: %d, %d; want %d", v, e, stands.version)
				}
				continue
			}
			next := value{stands.version + 1, fmt.Sprint(i, "-", strings.Repeat("z", r.Intn(2)*4096))}
			l[key] = []value{next}
			if v, e := s.Set(key, []byte(next.data), stands.version); e != api.OK {
				l[key] = append(l[key], stands)
				s = goesOn(t, d, s, r)
			} else if v != next.version {
				t.Fatalf("P12.5: version %d behind %d", v, stands.version)
			}
		}
		for _, key := range keys {
			l.settle(t, s, key)
		}
	}
}

// goesOn switches the disk on, and opens the store anew, or uses the old one further.
func goesOn(t *testing.T, d *disk.Disk, s *Store, r *rand.Rand) *Store {
	t.Helper()
	for {
		d.On()
		d.Arm(r.Intn(9)-6, r.Intn(6000)-1)
		if r.Intn(2) == 0 {
			fresh, e := Open(d)
			if e != api.OK && e != api.ErrDiskOff {
				t.Fatalf("P12.5: opened again: %d", e)
			}
			if e == api.OK {
				s = fresh
			}
		}
		if _, _, e := s.Get("a"); e == api.OK {
			return s
		}
	}
}

// step is one call on a twin.
type step func(x *twin)

func smallSteps() []step {
	return []step{
		func(x *twin) { x.open() },
		func(x *twin) { x.set("a", "p", 0) },
		func(x *twin) { x.set("a", "q", 1) },
		func(x *twin) { x.set("a", "", 2) },
		func(x *twin) { x.set("b", strings.Repeat("r", 4096), 0) },
		func(x *twin) { x.set("", "s", 0) },
		func(x *twin) { x.get("a") },
		func(x *twin) { x.both("arm 0", func(d *disk.Disk) { d.Arm(0, 3) }) },
		func(x *twin) { x.both("arm 1", func(d *disk.Disk) { d.Arm(1, 8) }) },
		func(x *twin) { x.both("off", func(d *disk.Disk) { d.Off(2) }) },
		func(x *twin) { x.both("on", (*disk.Disk).On) },
	}
}

// TestAllShortScripts: P12.1 to P12.5, every script of four of the small steps, against the chapter's words.
func TestAllShortScripts(t *testing.T) {
	steps := smallSteps()
	for script := range peek.Scripts(len(steps), 4) {
		x := newTwin(t, disk.New())
		for _, n := range script {
			steps[n](x)
		}
		x.both("on", (*disk.Disk).On)
		x.ask("a", "b")
	}
}

// strange is what somebody else lays into the log: a record that says something, or nearly so, or torn.
func strange(r *rand.Rand) string {
	rec := laid([]string{"a", "b", ""}[r.Intn(3)], uint64(r.Intn(6)), strings.Repeat("y", r.Intn(4)))
	b := framed(rec)
	return b[:len(b)-r.Intn(3)*r.Intn(2)]
}

// anyCall does one call by chance.
func anyCall(x *twin, r *rand.Rand, keys []string) {
	key := keys[r.Intn(len(keys))]
	switch r.Intn(14) {
	case 0, 1, 2, 3:
		version := x.m.vals[key].version + uint64(r.Intn(8)/7)
		x.set(key, strings.Repeat("k", r.Intn(2)*r.Intn(9000)), version)
	case 4:
		x.set(key, "m", uint64(r.Intn(5)))
	case 5:
		x.get(key)
	case 6:
		x.keys(key[:r.Intn(len(key)+1)])
	case 7:
		x.open()
	case 8:
		writes, keep := r.Intn(7)-1, r.Intn(400)-1
		x.both("arm", func(d *disk.Disk) { d.Arm(writes, keep) })
	case 9:
		keep := r.Intn(400) - 1
		x.both("off", func(d *disk.Disk) { d.Off(keep) })
	default:
		x.both("on", (*disk.Disk).On)
	}
}

// TestLongScripts: P12.1 to P12.5 by chance, held write by write against the chapter's words.
func TestLongScripts(t *testing.T) {
	keys := []string{"a", "b", "a/b", "", "A b", strings.Repeat("k", 64), strings.Repeat("k", 65)}
	for seed := range int64(150) {
		r := rand.New(rand.NewSource(seed))
		d := disk.New()
		for i := range r.Intn(4) {
			d.Append(fmt.Sprintf("kv/s%08d", i+1), []byte(framed(laid("a", uint64(i+1), "by hand"))))
		}
		x := newTwin(t, d)
		for range 100 {
			anyCall(x, r, keys)
		}
		x.both("on", (*disk.Disk).On)
		x.ask(keys...)
	}
}

// TestStrangeLogs: P12.1 by chance, on logs that somebody else has made.
func TestStrangeLogs(t *testing.T) {
	for seed := range int64(3000) {
		r := rand.New(rand.NewSource(seed))
		d := disk.New()
		for range r.Intn(6) {
			name := fmt.Sprintf("kv/%c%08d", "scs"[r.Intn(3)], 1+r.Intn(3))
			d.Append(name, []byte(strange(r)))
		}
		x := shutTwin(t, d)
		if x.open() == api.OK {
			x.ask("a", "b")
			x.set("a", "new", x.m.vals["a"].version)
			x.open()
			x.ask("a", "b")
		}
	}
}
