package wal

import (
	"fmt"
	"math/rand"
	"slices"
	"strings"
	"testing"

	"tidewrack/api"
	"tidewrack/disk"
)

// ledger is what a log has been told to keep, by the words of P7.5 alone: nothing in it knows of files.
type ledger struct {
	sure []string // has to be told
	all  []string // may be told, in this order
	next []string // a Cut that failed: this instead of all, or not
	cut  bool
}

// fits: are these records what P7.5 lets stand behind Open?
func (l *ledger) fits(recs []string) bool {
	begins := len(recs) >= len(l.sure) && len(recs) <= len(l.all) && slices.Equal(recs, l.all[:len(recs)])
	return begins || l.cut && slices.Equal(recs, l.next)
}

// taken: what Open told is what the log has now. If no power went, it may be loose still. (A Cut fails by the power alone here.)
func (l *ledger) taken(recs []string, powerWent bool) {
	*l = ledger{sure: l.sure, all: recs}
	if powerWent {
		l.sure = recs
	}
}

// record is no two times the same, and of a length that a coin tells.
func record(r *rand.Rand, i int) string {
	size := []int{0, 0, 0, 3, 20, 200, 2000, 4090, 5000}[r.Intn(9)]
	return fmt.Sprint(i, "-") + strings.Repeat("z", size)
}

// TestLedger: long scripts in which the power goes in any write, those of Open with them.
func TestLedger(t *testing.T) {
	for seed := range 400 {
		r := rand.New(rand.NewSource(int64(seed)))
		d, l := disk.New(), &ledger{}
		w := opened(t, d, "x")
		for i := range 150 {
			e := api.OK
			switch r.Intn(10) {
			default:
				rec := record(r, i)
				e = w.Append([]byte(rec))
				l.all = append(slices.Clone(l.all), rec)
			case 5, 6:
				if e = w.Sync(); e == api.OK {
					l.sure = l.all
				}
			case 7:
				var keep []string
				for k := range r.Intn(4) {
					keep = append(keep, record(r, 1000*i+k))
				}
				if e = w.Cut(bytesOf(keep...)); e == api.OK {
					*l = ledger{sure: keep, all: keep}
				} else {
					l.cut, l.next = true, keep
				}
			case 8:
				d.Arm(r.Intn(8), r.Intn(40)*r.Intn(40)-1)
			case 9:
				if r.Intn(2) == 0 {
					d.Off(r.Intn(6000) - 1)
				}
				e = api.ErrDiskOff
			}
			if e != api.OK {
				w = openedByLedger(t, d, l, r)
			}
		}
	}
}

func openedByLedger(t *testing.T, d *disk.Disk, l *ledger, r *rand.Rand) *Wal {
	t.Helper()
	powerWent := !d.Up()
	for {
		d.On()
		if r.Intn(3) == 0 {
			d.Arm(r.Intn(6), r.Intn(300)-1)
		}
		w, recs, e := Open(d, "x")
		if e == api.ErrDiskOff {
			powerWent = true
			continue
		}
		if e != api.OK || !l.fits(texts(recs)) {
			t.Fatalf("P7.5: %d: %.60q; sure %.60q, of %.60q; cut %v: %.60q", e, texts(recs), l.sure, l.all, l.cut, l.next)
		}
		l.taken(texts(recs), powerWent)
		return w
	}
}

// TestTwins: the same long scripts, held write by write against the chapter's words; here a log may go on behind an error of Append or Sync without being opened anew.
func TestTwins(t *testing.T) {
	for seed := range 250 {
		r := rand.New(rand.NewSource(int64(seed)))
		x := newTwin(t, disk.New(), "a/b")
		must(t, x.Open())
		for i := range 120 {
			switch r.Intn(12) {
			default:
				x.Append(record(r, i))
			case 5, 6:
				x.Sync()
			case 7:
				keep := []string{record(r, i), "", record(r, -i)}
				x.Cut(keep[:r.Intn(4)]...)
			case 8:
				writes, keep := r.Intn(9)-1, r.Intn(5000)-1
				x.both(func(d *disk.Disk) { d.Arm(writes, keep) })
			case 9:
				keep := r.Intn(5000) - 1
				x.both(func(d *disk.Disk) { d.Off(keep) })
			case 10:
				x.both((*disk.Disk).On)
			case 11:
				x.Open()
			}
			for x.shut {
				x.both((*disk.Disk).On)
				x.Open()
			}
		}
	}
}

// story: what a log goes through while its disk is armed, up to the first error.
func story(x *twin) api.Errno {
	keep := []string{"k1", "k2"}
	for _, step := range []func() api.Errno{
		x.Open,
		func() api.Errno { return x.Append("a") },
		func() api.Errno { return x.Append(sized(4090)) },
		x.Sync,
		func() api.Errno { return x.Append("b") },
		func() api.Errno { return x.Append(sized(4096)) },
		func() api.Errno { return x.Append("c") },
		func() api.Errno { return x.Cut(keep...) },
		func() api.Errno { return x.Append("d") },
		x.Sync,
		func() api.Errno { return x.Append("e") },
		x.Open,
		func() api.Errno { return x.Cut() },
		func() api.Errno { return x.Append("f") },
		func() api.Errno { return x.Cut("k3") },
		x.Open,
	} {
		if e := step(); e != api.OK {
			return e
		}
	}
	return api.OK
}

// TestPowerGoesAtEachWrite of a story, with each few survivors, and at each write of the Open behind it.
func TestPowerGoesAtEachWrite(t *testing.T) {
	ended := false
	for writes := 0; !ended; writes++ {
		for _, keep := range []int{-1, 0, 1, 2, 3, 4, 5, 6, 7, 8, 12, 13, 100, 4095, 4096, 4100} {
			x := newTwin(t, disk.New(), "x")
			x.both(func(d *disk.Disk) { d.Arm(writes, keep) })
			ended = story(x) == api.OK
			x.both((*disk.Disk).On)
			x.both(func(d *disk.Disk) { d.Arm(-1, 0) })
			_, recs, _ := opening(x.d, "x")
			tryEveryCut(t, x.d)
			must(t, x.Open())
			if !slices.Equal(x.told, recs) {
				t.Fatalf("P7.5: %q, not %q", x.told, recs)
			}
		}
		if writes > 100 {
			t.Fatal("the story does not end")
		}
	}
}

// TestCutIsDoneWhollyOrNot: at each of its writes, what Open tells is one of two lists, and the new one from its renaming on.
func TestCutIsDoneWhollyOrNot(t *testing.T) {
	for writes := range 8 {
		for keep := -1; keep < 40; keep++ {
			d := lay(t, "x/c00000002", framed("a"), "x/s00000003", framed("b"), "x/s00000007", framed("c"))
			w := opened(t, d, "x", "a", "b", "c")
			d.Arm(writes, keep)
			e := w.Cut(bytesOf("k", "l"))
			if (e == api.OK) != (writes >= 6) {
				t.Fatalf("P7.3: %d writes: %d", writes, e)
			}
			d.On()
			d.Arm(-1, 0)
			want := []string{"a", "b", "c"}
			if writes > 2 {
				want = []string{"k", "l"}
			}
			opened(t, d, "x", want...)
			opened(t, d, "x", want...)
		}
	}
}
