package obj

import (
	"fmt"
	"math/rand"
	"slices"
	"strings"
	"testing"

	"tidewrack/api"
	"tidewrack/disk"
	"tidewrack/peek"
)

// TestPowerGoesInAPut: at each of its writes, with each few survivors, what stands there then is the old object or the new one; and the new one, if it was answered.
func TestPowerGoesInAPut(t *testing.T) {
	for _, olds := range []int{0, 1, 2} {
		for writes := range 6 {
			for keep := -1; keep < 20; keep++ {
				d := disk.New()
				s := opened(t, d)
				for range olds {
					s.Put("k", []byte("old"))
				}
				d.Append("t/k", []byte("an earlier draft"))
				d.Arm(writes, keep)
				gen, e := s.PutIf("k", []byte("newer"), uint64(olds))
				if (e == api.OK) != (writes >= 4) || e != api.OK && (gen != 0 || e != api.ErrDiskOff) {
					t.Fatalf("P11.2: %d writes: %d, %d", writes, gen, e)
				}
				d.On()
				d.Arm(-1, 0)
				for _, again := range []*Store{s, opened(t, d)} {
					b, g, f := again.Get("k")
					old := string(b) == strings.Repeat("old", min(olds, 1)) && g == uint64(olds) && (f == api.OK) == (olds > 0)
					fresh := string(b) == "newer" && g == uint64(olds)+1 && f == api.OK
					if !old && !fresh || e == api.OK && !fresh {
						t.Fatalf("P11.4: %d writes, keep %d: %q, %d, %d", writes, keep, b, g, f)
					}
				}
				if left := d.List("t/"); len(left) != 0 {
					t.Fatalf("P11.1: %q", left)
				}
			}
		}
	}
}

// wish is what a key may hold, by the words of P11.4 alone: nothing in it knows of files. Generation 0: there is none.
type wish struct {
	gen  uint64
	data string
}

// ledger: of each key what stands there; behind a call that failed it may be one of two.
type ledger map[string][]wish

func (l ledger) of(key string) []wish {
	if ws := l[key]; len(ws) > 0 {
		return ws
	}
	return []wish{{}}
}

// settle: what the store tells has to be one of the wishes; it is the one from then on.
func (l ledger) settle(t *testing.T, s *Store, key string) wish {
	t.Helper()
	b, gen, e := s.Get(key)
	w := wish{gen, string(b)}
	if (e != api.ErrObjNone || gen != 0) && (e != api.OK || gen == 0) || !slices.Contains(l.of(key), w) {
		t.Fatalf("P11.4: %q: %.40q, %d, %d; it may be %.100v", key, b, gen, e, l.of(key))
	}
	l[key] = []wish{w}
	return w
}

// TestLedger: long scripts in which the power goes in any write, those of Open with them.
func TestLedger(t *testing.T) {
	keys := []string{"a", "b", "a/b", "o", "t"}
	for seed := range int64(400) {
		r := rand.New(rand.NewSource(seed))
		d, l := disk.New(), ledger{}
		s := opened(t, d)
		for i := range 120 {
			key := keys[r.Intn(len(keys))]
			stands := l.settle(t, s, key)
			next := wish{stands.gen + 1, fmt.Sprint(i, "-", strings.Repeat("z", r.Intn(40)))}
			e := api.OK
			switch r.Intn(8) {
			default:
				_, e = s.Put(key, []byte(next.data))
			case 3, 4:
				_, e = s.PutIf(key, []byte(next.data), stands.gen)
			case 5:
				if next = (wish{}); stands.gen > 0 {
					e = s.Delete(key)
				}
			case 6:
				d.Arm(r.Intn(9), r.Intn(60)-1)
				continue
			case 7:
				d.Off(r.Intn(60) - 1)
				s = reopened(t, d, r)
				continue
			}
			l[key] = []wish{next}
			if e != api.OK {
				l[key] = append(l[key], stands)
				s = reopened(t, d, r)
			}
		}
		for _, key := range keys {
			l.settle(t, s, key)
		}
	}
}

func reopened(t *testing.T, d *disk.Disk, r *rand.Rand) *Store {
	t.Helper()
	for {
		d.On()
		if r.Intn(3) == 0 {
			d.Arm(r.Intn(3), r.Intn(60)-1)
		}
		s, e := Open(d)
		if e == api.OK && d.Up() {
			return s
		}
		if e != api.ErrDiskOff {
			t.Fatalf("P11.4: opened again: %d", e)
		}
	}
}

// step is one call on a twin.
type step func(x *twin)

func smallSteps() []step {
	return []step{
		func(x *twin) { x.open() },
		func(x *twin) { x.put("a", "p") },
		func(x *twin) { x.put("a", "") },
		func(x *twin) { x.putIf("a", "q", 0) },
		func(x *twin) { x.putIf("a", "r", 1) },
		func(x *twin) { x.put("b", "s") },
		func(x *twin) { x.remove("a") },
		func(x *twin) { x.both("arm 0", func(d *disk.Disk) { d.Arm(0, 1) }) },
		func(x *twin) { x.both("arm 2", func(d *disk.Disk) { d.Arm(2, 6) }) },
		func(x *twin) { x.both("off", func(d *disk.Disk) { d.Off(2) }) },
		func(x *twin) { x.both("on", (*disk.Disk).On) },
	}
}

// TestAllShortScripts: P11.1 to P11.4, every script of four of the small steps, against the chapter's words.
func TestAllShortScripts(t *testing.T) {
	steps := smallSteps()
	for script := range peek.Scripts(len(steps), 4) {
		x := newTwin(t, disk.New())
		for _, n := range script {
			steps[n](x)
		}
		x.both("on", (*disk.Disk).On)
		x.ask("a", "b")
	}
}

// strange is a file's bytes that are an object, or nearly one.
func strange(r *rand.Rand) string {
	b := []byte(laid(uint64(r.Intn(400)), strings.Repeat("y", r.Intn(4))))
	if r.Intn(2) == 0 {
		b[r.Intn(len(b))] ^= 1 << r.Intn(8)
	}
	return string(b[:len(b)-r.Intn(3)])
}

// anyCall does one call by chance; now and then somebody else writes to the disk.
func anyCall(x *twin, r *rand.Rand, keys []string) {
	key := keys[r.Intn(len(keys))]
	switch r.Intn(14) {
	case 0, 1:
		x.put(key, strings.Repeat("k", r.Intn(300)))
	case 2, 3:
		x.putIf(key, strings.Repeat("m", r.Intn(9)), uint64(r.Intn(5)))
	case 4:
		x.get(key)
	case 5:
		x.slice(key, r.Intn(9)-2, r.Intn(12)-2)
	case 6:
		x.remove(key)
	case 7:
		x.list(key[:r.Intn(len(key)+1)])
	case 8:
		x.open()
	case 9:
		writes, keep := r.Intn(7)-1, r.Intn(400)-1
		x.both("arm", func(d *disk.Disk) { d.Arm(writes, keep) })
	case 10:
		keep := r.Intn(400) - 1
		x.both("off", func(d *disk.Disk) { d.Off(keep) })
	case 11:
		name, file := []string{"o/", "t/", ""}[r.Intn(3)]+key, strange(r)
		x.both("file", func(d *disk.Disk) { d.Delete(name); d.Append(name, []byte(file)) })
	default:
		x.both("on", (*disk.Disk).On)
	}
}

// TestLongScripts: P11.1 to P11.4 by chance, held write by write against the chapter's words, also where the store goes on behind an error without being opened anew.
func TestLongScripts(t *testing.T) {
	keys := []string{"a", "b", "a/b", "o", "t/a", "o/a", "A", strings.Repeat("k", 56), strings.Repeat("k", 57), "a.b-9"}
	for seed := range int64(250) {
		r := rand.New(rand.NewSource(seed))
		x := newTwin(t, disk.New())
		for range 120 {
			anyCall(x, r, keys)
		}
		x.both("on", (*disk.Disk).On)
		x.ask(keys...)
	}
}
