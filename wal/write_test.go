package wal

import (
	"fmt"
	"slices"
	"strings"
	"testing"
	"time"

	"tidewrack/api"
	"tidewrack/disk"
)

// sized is a record whose frame has so many bytes.
func sized(n int) string {
	for size := max(0, n-8); ; size++ {
		if rec := strings.Repeat("z", size); len(framed(rec)) == n {
			return rec
		}
	}
}

func TestSegmentIsFullAtMaxSegment(t *testing.T) {
	for _, sizes := range [][]int{{4095, 10, 10}, {4096, 10, 10}, {4097, 10, 10}, {2048, 2047, 10, 10}, {2048, 2048, 10, 10}, {10, 65536, 10}, {5, 5, 4085, 5, 4096, 4096, 5}} {
		x := newTwin(t, disk.New(), "x")
		must(t, x.Open())
		var all []string
		for _, n := range sizes {
			must(t, x.Append(sized(n)))
			all = append(all, sized(n))
		}
		must(t, x.Open())
		if !slices.Equal(x.told, all) {
			t.Errorf("P7.2: %v: %d records", sizes, len(x.told))
		}
	}
	d := disk.New()
	w := opened(t, d, "x")
	must(t, w.Append([]byte(sized(4095))), w.Append([]byte("a")))
	listed(t, d, "x/s00000001")
	must(t, w.Append([]byte("b")))
	listed(t, d, "x/s00000001", "x/s00000002")
	if w.Segments() != 2 {
		t.Errorf("P7.4: %d", w.Segments())
	}
	must(t, w.Cut(nil), w.Append([]byte(sized(4096))), w.Append([]byte("c")))
	listed(t, d, "x/c00000002", "x/s00000003", "x/s00000004")
}

func TestFullSegmentIsSyncedAheadOfTheNext(t *testing.T) {
	d := disk.New()
	w := opened(t, d, "x")
	must(t, w.Append([]byte(sized(4096))), w.Append([]byte("b")))
	d.Off(-1)
	d.On()
	opened(t, d, "x", sized(4096))
	listed(t, d, "x/s00000001", "x/s00000002")
}

func TestNumbersRise(t *testing.T) {
	for _, at := range []int{1, 8, 9, 10, 99, 999999, 9999999, 99999997} {
		x := newTwin(t, lay(t, fmt.Sprintf("x/s%08d", at), framed(sized(4096))), "x")
		must(t, x.Open(), x.Append("b"), x.Append(sized(4090)), x.Append("c"), x.Open())
		listed(t, x.d, x.segment(at), x.segment(at+1), x.segment(at+2))
		must(t, x.Cut("k"), x.Open())
		listed(t, x.d, fmt.Sprintf("x/c%08d", at+2))
		if at < 99999997 {
			must(t, x.Append("d"), x.Open())
			listed(t, x.d, fmt.Sprintf("x/c%08d", at+2), x.segment(at+3))
		}
	}
}

// TestNumbersOfNineDigits: nothing is promised of them but that the calls end.
func TestNumbersOfNineDigits(t *testing.T) {
	d := lay(t, "x/s99999999", framed(sized(4096)))
	w := opened(t, d, "x", sized(4096))
	w.Append([]byte("a"))
	w.Sync()
	w.Cut(nil)
	w.Append([]byte("b"))
	w.Segments()
	Open(d, "x")
}

func TestLongRecords(t *testing.T) {
	x := newTwin(t, disk.New(), "x")
	must(t, x.Open())
	big, bigger := strings.Repeat("z", 65536), strings.Repeat("z", 65537)
	long := func(e api.Errno) {
		t.Helper()
		if e != api.ErrWalLong {
			t.Errorf("P7.2: %d", e)
		}
	}
	for range 2 {
		long(x.Append(bigger))
		long(x.Append(strings.Repeat("z", 1<<20)))
		long(x.Cut(bigger))
		long(x.Cut("a", "b", bigger))
		long(x.Cut(bigger, "a"))
		must(t, x.Append(big), x.Append(""))
	}
	must(t, x.Cut(big, "", big), x.Open())
	if !slices.Equal(x.told, []string{big, "", big}) {
		t.Errorf("P7.3: %d records", len(x.told))
	}
	x.both(func(d *disk.Disk) { d.Off(0) })
	long(x.Append(bigger))
	long(x.Cut("a", bigger))
}

func TestDiskThatIsOff(t *testing.T) {
	x := newTwin(t, disk.New(), "x")
	must(t, x.Open())
	off := func(e api.Errno) {
		t.Helper()
		if e != api.ErrDiskOff {
			t.Errorf("P7.2: %d", e)
		}
	}
	x.both(func(d *disk.Disk) { d.Off(0) })
	must(t, x.Sync()) // there is no file
	off(x.Append("a"))
	must(t, x.Sync())
	x.both((*disk.Disk).On)
	must(t, x.Append("a"), x.Sync(), x.Append("b"))
	x.both(func(d *disk.Disk) { d.Off(2) })
	off(x.Sync())
	off(x.Append("c"))
	off(x.Cut("c"))
	off(x.Open())
	if x.w != nil {
		t.Error("P7.1: a log beside an error")
	}
	x.both((*disk.Disk).On)
	must(t, x.Open())
	if !slices.Equal(x.told, []string{"a"}) {
		t.Errorf("P7.5: %q", x.told)
	}
}

// TestBytesThatWentCountNoMore: a log that goes on behind a power cut, not opened anew, fills the segment as it is.
func TestBytesThatWentCountNoMore(t *testing.T) {
	x := newTwin(t, disk.New(), "x")
	must(t, x.Open(), x.Append(sized(4096)))
	x.both(func(d *disk.Disk) { d.Off(-1); d.On() })
	must(t, x.Append("b"), x.Append("c"), x.Sync(), x.Open())
	listed(t, x.d, "x/s00000001")
}

func TestPowerGoesInAppend(t *testing.T) {
	for writes := range 4 {
		for _, keep := range []int{-1, 0, 1, 7, 4096, 4100} {
			x := newTwin(t, disk.New(), "x")
			must(t, x.Open(), x.Append(sized(4096)))
			x.both(func(d *disk.Disk) { d.Arm(writes, keep) })
			x.Append("b")
			x.Sync()
			x.both((*disk.Disk).On)
			// It was not opened anew: what it knows of its files is right still.
			x.Sync()
			x.Append("c")
			x.both((*disk.Disk).On)
			if writes > 2 {
				x.both(func(d *disk.Disk) { d.Arm(-1, 0) })
			}
			must(t, x.Cut("k"), x.Append("d"), x.Open())
			if !slices.Equal(x.told, []string{"k", "d"}) {
				t.Errorf("P7.3: %q", x.told)
			}
		}
	}
}

func TestCut(t *testing.T) {
	x := newTwin(t, disk.New(), "x")
	must(t, x.Open(), x.Cut())
	listed(t, x.d, "x/c00000001")
	must(t, x.Open(), x.Cut(), x.Cut(""), x.Cut("a", "b"))
	listed(t, x.d, "x/c00000004")
	must(t, x.Append("c"), x.Sync(), x.Open())
	listed(t, x.d, "x/c00000004", "x/s00000005")
	if !slices.Equal(x.told, []string{"a", "b", "c"}) {
		t.Errorf("P7.3: %q", x.told)
	}
	for range 5 {
		must(t, x.Append(sized(4096)))
	}
	must(t, x.Cut("d"), x.Sync(), x.Append("e"), x.Cut("f"))
	listed(t, x.d, "x/c00000010")
}

// TestCutOfALogWhoseCheckpointIsGone: Open deletes a checkpoint that is torn from its beginning on.
func TestCutOfALogWhoseCheckpointIsGone(t *testing.T) {
	for _, laid := range []*disk.Disk{lay(t, "x/c00000007", "!"), lay(t, "x/c00000003", framed("a"), "x/c00000007", "!", "x/s00000009", framed("b"))} {
		x := newTwin(t, laid.Clone(), "x")
		must(t, x.Open())
		listed(t, x.d)
		must(t, x.Append("c"))
		listed(t, x.d, "x/s00000008")
		must(t, x.Cut("d"), x.Append("e"), x.Open())
		listed(t, x.d, "x/c00000008", "x/s00000009")
		x = newTwin(t, laid.Clone(), "x")
		must(t, x.Open(), x.Cut("d"))
		listed(t, x.d, "x/c00000008")
	}
}

func TestCutThatIsTooLongForAFile(t *testing.T) {
	x := newTwin(t, disk.New(), "x")
	must(t, x.Open(), x.Append("a"))
	big := strings.Repeat("z", 65536)
	fits := slices.Repeat([]string{big}, 63)
	rest := 1<<22 - 63*len(framed(big))
	must(t, x.Cut(append(fits, sized(rest-10), sized(10))...), x.Open(), x.Append("b"))
	if e := x.Cut(append(fits, sized(rest-10), sized(11))...); e != api.ErrDiskFull {
		t.Errorf("P7.3: %d", e)
	}
	must(t, x.Open())
	if len(x.told) != 66 || x.told[65] != "b" {
		t.Errorf("P7.5: %d records", len(x.told))
	}
	// The disk refused it ahead of any write: the log has changed nothing.
	w := opened(t, x.d, "x", x.told...)
	if e := w.Cut(bytesOf(slices.Repeat([]string{big}, 65)...)); e != api.ErrDiskFull {
		t.Errorf("P7.3: %d", e)
	}
	must(t, w.Append([]byte("c")), w.Sync(), w.Cut(bytesOf("d")))
	opened(t, x.d, "x", "d")
}

func TestDiskWithoutRoom(t *testing.T) {
	d := disk.New()
	for i := range 1<<20 - 1 {
		d.Append(fmt.Sprint("f", i), nil)
	}
	w := opened(t, d, "x")
	must(t, w.Append([]byte(sized(4096))))
	for range 2 {
		if e := w.Append([]byte("b")); e != api.ErrDiskFull || w.Segments() != 1 {
			t.Errorf("P7.2: %d, %d segments", e, w.Segments())
		}
	}
	if e := w.Cut(nil); e != api.ErrDiskFull {
		t.Errorf("P7.3: %d", e)
	}
	opened(t, d, "x", sized(4096))
	must(t, d.Append("x/s00000001", []byte("!")))
	if w, recs, e := Open(d, "x"); w != nil || recs != nil || e != api.ErrDiskFull {
		t.Errorf("P7.1: %d records, %d", len(recs), e)
	}
	must(t, d.Delete("f0"))
	opened(t, d, "x", sized(4096))
}

func TestWhatIsHandedInStays(t *testing.T) {
	d := disk.New()
	w := opened(t, d, "x")
	memory := []byte("headtailrest")
	rec := memory[4:8]
	must(t, w.Append(rec))
	keep := [][]byte{rec, memory[:4], {'!'}}[:2]
	if string(memory) != "headtailrest" {
		t.Errorf("R3: %q", memory)
	}
	copy(memory, "HEADTAILREST")
	opened(t, d, "x", "tail")
	must(t, w.Cut(keep))
	if string(memory) != "HEADTAILREST" || string(keep[:3][2]) != "!" {
		t.Errorf("R3: %q, %q", memory, keep[:3])
	}
	copy(memory, "............")
	keep[0], keep[1] = nil, nil
	opened(t, d, "x", "TAIL", "HEAD")
	must(t, w.Append(nil), w.Append([]byte{}), w.Sync())
	opened(t, d, "x", "TAIL", "HEAD", "", "")
}

// TestLogOfManySegments: each call takes a time that its own bytes explain, not the log's.
func TestLogOfManySegments(t *testing.T) {
	d := disk.New()
	w := opened(t, d, "x")
	began := time.Now()
	for range 20000 {
		must(t, w.Append([]byte(sized(1025))), w.Sync())
	}
	if w.Segments() != 5000 {
		t.Errorf("P7.4: %d", w.Segments())
	}
	w, recs, e := Open(d, "x")
	if e != api.OK || len(recs) != 20000 || w.Segments() != 5000 {
		t.Fatalf("P7.1: %d records, %d", len(recs), e)
	}
	must(t, w.Cut(recs[:3000]))
	opened(t, d, "x", texts(recs[:3000])...)
	listed(t, d, "x/c00005000")
	// A file full of the shortest frames, and torn at its end; all segments behind it go.
	must(t, do(d, op{"append", "y/s00000001", strings.Repeat("\x00", 1<<22)}))
	for i := range 3000 {
		must(t, d.Append(fmt.Sprintf("y/s%08d", i+2), []byte(framed("a"))))
	}
	_, recs, e = Open(d, "y")
	if e != api.OK || len(recs) != 1<<22/5 || len(d.List("y/")) != 1 {
		t.Errorf("P7.1: %d records, %d", len(recs), e)
	}
	if took := time.Since(began); took > 20*time.Second {
		t.Errorf("size: %v", took)
	}
}
