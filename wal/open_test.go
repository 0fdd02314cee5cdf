package wal

import (
	"fmt"
	"math/rand"
	"slices"
	"strings"
	"testing"

	"tidewrack/api"
	"tidewrack/disk"
)

// lay makes a disk of files: names and bytes by turns, all synced.
func lay(t *testing.T, files ...string) *disk.Disk {
	t.Helper()
	d := disk.New()
	for i := 0; i+1 < len(files); i += 2 {
		if e := do(d, op{"append", files[i], files[i+1]}, op{"sync", files[i], ""}); e != api.OK {
			t.Fatal(e)
		}
	}
	return d
}

func opened(t *testing.T, d *disk.Disk, dir string, want ...string) *Wal {
	t.Helper()
	w, recs, e := Open(d, dir)
	if e != api.OK || w == nil || !slices.Equal(texts(recs), want) {
		t.Fatalf("P7.1: Open: %.100q, %d; want %.100q", recs, e, want)
	}
	return w
}

func must(t *testing.T, es ...api.Errno) {
	t.Helper()
	for i, e := range es {
		if e != api.OK {
			t.Fatalf("call %d: %d", i, e)
		}
	}
}

func listed(t *testing.T, d *disk.Disk, want ...string) {
	t.Helper()
	if got := d.List(""); !slices.Equal(got, want) {
		t.Errorf("files: %q; want %q", got, want)
	}
}

func bytesOf(recs ...string) [][]byte {
	var out [][]byte
	for _, r := range recs {
		out = append(out, []byte(r))
	}
	return out
}

func TestExamples(t *testing.T) {
	d := disk.New()
	w := opened(t, d, "x")
	must(t, w.Append([]byte("a")), w.Sync(), w.Append([]byte("b")))
	d.Off(0)
	d.On()
	opened(t, d, "x", "a")

	d = disk.New()
	w = opened(t, d, "x")
	must(t, w.Append([]byte("a")), w.Cut(bytesOf("b")), w.Append([]byte("c")), w.Sync())
	opened(t, d, "x", "b", "c")
}

func TestFolders(t *testing.T) {
	for c := range 256 {
		s := string([]byte{byte(c)})
		want := api.ErrWalForm
		if strings.Contains("abcdefghijklmnopqrstuvwxyz0123456789/.-", s) {
			want = api.OK
		}
		for _, dir := range []string{s, s + "x", "x" + s, "x" + s + "x"} {
			tryFolder(t, dir, want)
		}
	}
	for _, n := range []int{1, 2, 31, 32} {
		tryFolder(t, strings.Repeat("q", n), api.OK)
	}
	for _, n := range []int{0, 33, 34, 63, 64, 65, 1 << 16} {
		tryFolder(t, strings.Repeat("q", n), api.ErrWalForm)
	}
	for _, dir := range []string{"é", "x\x00", "/", "//", "x/", "../x", "x/new", "s00000001"} {
		want := api.OK
		if strings.Trim(dir, "abcdefghijklmnopqrstuvwxyz0123456789/.-") != "" {
			want = api.ErrWalForm
		}
		tryFolder(t, dir, want)
	}
}

// tryFolder: a folder that is none is told even of a disk that is off.
func tryFolder(t *testing.T, dir string, want api.Errno) {
	t.Helper()
	d := disk.New()
	w, recs, e := Open(d, dir)
	if e != want || (w == nil) != (e != api.OK) || recs != nil || d.Writes() != 0 {
		t.Errorf("P7.1: Open(%q): %v, %q, %d; want %d", dir, w, recs, e, want)
	}
	if e == api.OK {
		must(t, w.Append([]byte("a")), w.Sync())
		listed(t, d, dir+"/s00000001")
		opened(t, d, dir, "a")
	}
	d.Off(0)
	if want == api.OK {
		want = api.ErrDiskOff
	}
	if w, recs, e := Open(d, dir); e != want || w != nil || recs != nil {
		t.Errorf("P7.1: Open(%q), off: %v, %q, %d; want %d", dir, w, recs, e, want)
	}
}

func TestNamesThatAreNotTheLogs(t *testing.T) {
	a := framed("a")
	others := []string{
		"new", "s00000001", "c00000001", "x", "x/", "x/n", "x/new1", "x/news", "x/new/", "y/new", "x/s", "x/c",
		"x/s00000000", "x/s1", "x/s0000001", "x/s000000001", "x/s0000000a", "x/s-0000001", "x/s0000001-", "x/s.0000001", "x/sabcdefgh", "x/s00000001/", "x/s/00000001", "x/s00000001.a",
		"x/c1", "x/c0000009", "x/c000000009", "x/c-0000009", "x/cabcdefgh", "x/c00000009/", "x/d00000009", "x/00000009",
		"x//s00000001", "x/y/s00000001", "x/y/c00000001", "x/y/new", "xx/s00000001", "x.s00000001", "x-c00000001", "a/x/s00000001",
	}
	var files []string
	for _, name := range others {
		files = append(files, name, a[:len(a)-1])
	}
	d := lay(t, files...)
	before := filesOf(d)
	w := opened(t, d, "x")
	if w.Segments() != 0 {
		t.Errorf("P7.4: %d", w.Segments())
	}
	must(t, w.Append([]byte("b")), w.Cut(bytesOf("c")), w.Append([]byte("d")), w.Sync())
	opened(t, d, "x", "c", "d")
	after := filesOf(d)
	for name, file := range before {
		if after[name] != file {
			t.Errorf("P7.1: %q: %q, not %q", name, after[name], file)
		}
	}
	if len(after) != len(before)+2 {
		t.Errorf("P7.1: %q", d.List(""))
	}
}

// TestCheckpointOfNumberNought: eight digits are a checkpoint, but a segment from 1 on alone.
func TestCheckpointOfNumberNought(t *testing.T) {
	d := lay(t, "x/c00000000", framed("a"), "x/s00000000", framed("b"), "x/s00000001", framed("c"))
	x := newTwin(t, d, "x")
	must(t, x.Open(), x.Append("d"))
	if !slices.Equal(x.told, []string{"a", "c"}) {
		t.Errorf("P7.1: %q", x.told)
	}
	must(t, x.Cut("e"))
	listed(t, d, "x/c00000001", "x/s00000000")
	d = lay(t, "x/c00000000", framed("a")+"!", "x/s00000001", framed("c"), "x/c00000002", framed("e"))
	opened(t, d, "x", "e")
	listed(t, d, "x/c00000002")
}

func TestTwoLogsOnOneDisk(t *testing.T) {
	d := disk.New()
	dirs := []string{"x", "x/y", "y", "xy", "x/", "x/s", "x/c"}
	for _, dir := range dirs {
		w := opened(t, d, dir)
		must(t, w.Append([]byte("1"+dir)), w.Cut(bytesOf("2"+dir)), w.Append([]byte("3"+dir)), w.Sync())
	}
	for _, dir := range dirs {
		must(t, d.Append(dir+"/new", []byte("torn")))
		opened(t, d, dir, "2"+dir, "3"+dir)
	}
	if len(d.List("")) != 2*len(dirs) {
		t.Errorf("P7.1: %q", d.List(""))
	}
}

// everyFolder calls f with each way to lay what may stand in each of the names.
func everyFolder(names []string, may [][]string, f func(files []string)) {
	var grow func(files []string)
	grow = func(files []string) {
		k := len(files) / 2
		if k == len(names) {
			f(files)
			return
		}
		for _, bytes := range may[k] {
			grow(append(files, names[k], bytes))
		}
	}
	grow(nil)
}

const absent = "absent"

func present(files []string) []string {
	var out []string
	for i := 0; i < len(files); i += 2 {
		if files[i+1] != absent {
			out = append(out, files[i], files[i+1])
		}
	}
	return out
}

// TestEveryFolder: Open does the chapter's writes in their order, wherever the power goes in them; and Open anew tells the same records.
func TestEveryFolder(t *testing.T) {
	a, b := framed("a"), framed("bb")
	old, may := []string{absent, a, b + "!"}, []string{absent, "", a, a + b, b + a[:4], a[:5]}
	for _, draft := range []string{absent, "q"} {
		everyFolder([]string{"x/c00000001", "x/c00000002", "x/s00000002", "x/s00000003", "x/s00000005"}, [][]string{old, may, old, may, may}, func(files []string) {
			d := lay(t, append(present(files), present([]string{"x/new", draft})...)...)
			tryEveryCut(t, d)
		})
	}
}

func TestEveryFolderWithoutCheckpoint(t *testing.T) {
	a := framed("a")
	may := []string{absent, "", a, a + "!", a[:5]}
	everyFolder([]string{"x/s00000001", "x/s00000002", "x/s00000009", "x/s00000010", "x/s99999998"}, [][]string{may, may, may, may, may}, func(files []string) {
		tryEveryCut(t, lay(t, present(files)...))
	})
}

func tryEveryCut(t *testing.T, laid *disk.Disk) {
	t.Helper()
	ops, recs, _ := opening(laid, "x")
	for k := range len(ops) + 1 {
		x := newTwin(t, laid.Clone(), "x")
		x.both(func(d *disk.Disk) { d.Arm(k, 3*k) })
		if e := x.Open(); (e == api.OK) != (k == len(ops)) {
			t.Fatalf("P7.1: %d writes, not %d: %d", k, len(ops), e)
		}
		x.both((*disk.Disk).On)
		x.both(func(d *disk.Disk) { d.Arm(-1, 0) })
		for range 2 {
			must(t, x.Open())
			if !slices.Equal(x.told, recs) {
				t.Fatalf("P7.5: %q, the power gone at write %d: %q; want %q", filesOf(laid), k, x.told, recs)
			}
		}
		writes := x.d.Writes()
		must(t, x.Open())
		if x.d.Writes() != writes {
			t.Fatalf("P7.1: what was mended is mended anew: %q", filesOf(laid))
		}
		must(t, x.Append("z"), x.Sync(), x.Open())
		if !slices.Equal(x.told, append(slices.Clone(recs), "z")) {
			t.Fatalf("P7.5: %q, with z behind: %q", recs, x.told)
		}
	}
}

// TestTornAnywhere: of a file that ends at any byte, or has any bit turned, the records ahead of that place are told.
func TestTornAnywhere(t *testing.T) {
	recs := []string{"", "a", strings.Repeat("b", 127), strings.Repeat("c", 128), "", "d"}
	file, ends := "", []int{0}
	for _, r := range recs {
		file += framed(r)
		ends = append(ends, len(file))
	}
	whole := func(at int) int {
		n := 0
		for n < len(recs) && ends[n+1] <= at {
			n++
		}
		return n
	}
	check := func(bytes string, n int) {
		t.Helper()
		d := lay(t, "x/s00000004", bytes, "x/s00000005", framed("z"))
		want := slices.Clone(recs[:n])
		if len(bytes) == ends[n] {
			want = append(want, "z")
		}
		opened(t, d, "x", want...)
		if len(bytes) > ends[n] && n > 0 && filesOf(d)["x/s00000004"] != file[:ends[n]] {
			t.Errorf("P7.1: %q", filesOf(d))
		}
	}
	for at := range len(file) + 1 {
		check(file[:at], whole(at))
	}
	for bit := range 8 * len(file) {
		b := []byte(file)
		b[bit/8] ^= 1 << (bit % 8)
		check(string(b), whole(bit/8))
	}
}

func TestFramesThatAreNone(t *testing.T) {
	long := framed(strings.Repeat("z", 65537))
	needless := "\x81\x00" + framed("a")[1:]
	for _, bytes := range []string{long, needless, "\x80", strings.Repeat("\xff", 20), "\xff\xff\xff\xff\xff\xff\xff\xff\xff\x01aaaaaaaaa"} {
		d := lay(t, "x/s00000001", framed("a")+bytes, "x/s00000002", framed("b"))
		opened(t, d, "x", "a")
		listed(t, d, "x/s00000001")
	}
	big := strings.Repeat("z", 65536)
	opened(t, lay(t, "x/s00000001", framed(big)+framed("")), "x", big, "")
	opened(t, lay(t, "x/s00000001", strings.Repeat("\x00", 11)), "x", "", "")
}

// TestMendOfWhatIsLoose: files may have bytes that are not synced when Open comes; what it tells may go with the power then, but no other way.
func TestMendOfWhatIsLoose(t *testing.T) {
	r := rand.New(rand.NewSource(7))
	names := []string{"x/c00000001", "x/c00000003", "x/new", "x/s00000001", "x/s00000003", "x/s00000004", "x/s00000005", "x/s00000007", "x/z"}
	for range 4000 {
		d := disk.New()
		for _, name := range names {
			if r.Intn(3) == 0 {
				continue
			}
			file := ""
			for range r.Intn(4) {
				file += framed(strings.Repeat("r", r.Intn(5)))
			}
			if r.Intn(4) == 0 {
				file += framed("torn")[:1+r.Intn(7)]
			}
			at := r.Intn(len(file) + 1)
			must(t, do(d, op{"append", name, file[:at]}, op{"sync", name, ""}, op{"append", name, file[at:]}))
		}
		x := newTwin(t, d, "x")
		writes, keep := r.Intn(12), r.Intn(30)-2
		x.both(func(d *disk.Disk) { d.Arm(writes, keep) })
		for x.Open() != api.OK {
			x.both((*disk.Disk).On)
		}
		x.both(func(d *disk.Disk) { d.Arm(-1, 0) })
		must(t, x.Append("p"), x.Sync(), x.Open(), x.Cut("q", fmt.Sprint(writes)), x.Open())
	}
}

func TestWhatOpenTellsIsNew(t *testing.T) {
	d := lay(t, "x/c00000001", framed("aaaa")+framed("bbbb"), "x/s00000002", framed("cccc")+framed("dddd"))
	before := filesOf(d)
	_, recs, _ := Open(d, "x")
	for i := range recs {
		for k := range recs[i] {
			recs[i][k] = '!'
		}
		_ = append(recs[i], "????????"...)
	}
	if !slices.Equal(texts(recs), []string{"!!!!", "!!!!", "!!!!", "!!!!"}) {
		t.Errorf("R3: %q", recs)
	}
	opened(t, d, "x", "aaaa", "bbbb", "cccc", "dddd")
	if after := filesOf(d); len(after) != len(before) || after["x/c00000001"] != before["x/c00000001"] {
		t.Errorf("R3: %q", after)
	}
}
