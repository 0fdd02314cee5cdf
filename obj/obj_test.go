package obj

import (
	"math"
	"slices"
	"strings"
	"testing"

	"tidewrack/api"
	"tidewrack/disk"
	"tidewrack/peek"
)

func opened(t *testing.T, d *disk.Disk) *Store {
	t.Helper()
	s, e := Open(d)
	if e != api.OK || s == nil {
		t.Fatalf("P11.1: %d", e)
	}
	return s
}

// fill writes these files (name, bytes, name, bytes ..), and syncs them.
func fill(t *testing.T, d *disk.Disk, files ...string) {
	t.Helper()
	for i := 0; i < len(files); i += 2 {
		if e := d.Append(files[i], []byte(files[i+1])); e != api.OK {
			t.Fatalf("%q: %d", files[i], e)
		}
		d.Sync(files[i])
	}
}

func lay(t *testing.T, files ...string) *disk.Disk {
	t.Helper()
	d := disk.New()
	fill(t, d, files...)
	return d
}

// tells: Get's answer, held against an object that is there.
func tells(t *testing.T, promise string, s *Store, key, data string, gen uint64) {
	t.Helper()
	if b, g, e := s.Get(key); e != api.OK || g != gen || string(b) != data {
		t.Errorf("%s: Get(%q): %.40q, %d, %d; want %.40q, %d", promise, key, b, g, e, data, gen)
	}
}

func TestExamples(t *testing.T) {
	s := opened(t, disk.New())
	if g, e := s.Put("a", []byte{1}); g != 1 || e != api.OK {
		t.Errorf("P11.2: %d, %d", g, e)
	}
	if g, e := s.PutIf("a", []byte{2}, 1); g != 2 || e != api.OK {
		t.Errorf("P11.2: %d, %d", g, e)
	}
	if g, e := s.PutIf("a", []byte{3}, 1); g != 2 || e != api.ErrObjGen {
		t.Errorf("P11.2: %d, %d", g, e)
	}
	tells(t, "P11.3", s, "a", "\x02", 2)
	if b, g, e := s.Get("b"); b != nil || g != 0 || e != api.ErrObjNone {
		t.Errorf("P11.3: %x, %d, %d", b, g, e)
	}
	if g, e := s.Put("o/x", []byte{1}); g != 0 || e != api.ErrObjName {
		t.Errorf("P11.2: %d, %d", g, e)
	}
	if b, e := s.Slice("a", 0, 9); b != nil || e != api.ErrObjSize {
		t.Errorf("P11.3: %x, %d", b, e)
	}
}

// asKey: what each call that takes a key says to it, in a store that is empty.
func asKey(t *testing.T, key string) []api.Errno {
	t.Helper()
	s := opened(t, disk.New())
	_, get, got := s.Get(key)
	slice, sliced := s.Slice(key, 0, 0)
	gone := s.Delete(key)
	one, put := s.Put(key, nil)
	two, again := s.PutIf(key, nil, one)
	if put != api.OK && (get != 0 || slice != nil || one != 0 || two != 0) {
		t.Errorf("R2: %q: beside an error: %d, %v, %d, %d", key, get, slice, one, two)
	}
	return []api.Errno{got, sliced, gone, put, again, s.Delete(key)}
}

func TestKeys(t *testing.T) {
	good := []api.Errno{api.ErrObjNone, api.ErrObjNone, api.ErrObjNone, api.OK, api.OK, api.OK}
	bad := slices.Repeat([]api.Errno{api.ErrObjName}, 6)
	check := func(key string, want []api.Errno) {
		t.Helper()
		if got := asKey(t, key); !slices.Equal(got, want) {
			t.Errorf("P11.2: %q: %v; want %v", key, got, want)
		}
	}
	for c := range 256 {
		want := bad
		if strings.IndexByte("abcdefghijklmnopqrstuvwxyz0123456789/.-", byte(c)) >= 0 {
			want = good
		}
		b := string([]byte{byte(c)})
		for _, key := range []string{b, b + "a", "a" + b, "a" + b + "a"} {
			check(key, want)
		}
	}
	for _, key := range []string{"o", "t", "/", "//", "/o/", "/t/", "oo/", "tt/", "o-", "o.", "t.t/", "x/o/", "a/t/", "0/o/t/", strings.Repeat("q", 55), strings.Repeat("q", 56), "o-" + strings.Repeat("q", 54)} {
		check(key, good)
	}
	for _, key := range []string{"", "o/", "t/", "o/o", "t/t", "o//", "t/o/a", "o/" + strings.Repeat("q", 54), "t/" + strings.Repeat("q", 55), strings.Repeat("q", 57), strings.Repeat("q", 62), strings.Repeat("q", 64), strings.Repeat("q", 1<<16), "é", "a\x00", "a b"} {
		check(key, bad)
	}
}

func TestFirstNamedErrorIsTold(t *testing.T) {
	d := disk.New()
	s := opened(t, d)
	s.Put("a", []byte("xyz"))
	d.Append("t/a", []byte("junk"))
	before, writes := peek.Files(d), d.Writes()
	big := make([]byte, api.MaxObject+1)
	refused := func(what string, want api.Errno, gen uint64, e api.Errno) {
		t.Helper()
		if e != want || gen != 0 {
			t.Errorf("P11.2: %s: %d, %d; want %d", what, gen, e, want)
		}
	}
	for _, off := range []bool{false, true} {
		if off {
			d.Off(9)
			d.Arm(0, 0)
		}
		for _, key := range []string{"", "A", "o/a", "t/a"} {
			g, e := s.Put(key, big)
			refused("Put, name and size", api.ErrObjName, g, e)
			g, e = s.PutIf(key, big, 7)
			refused("PutIf, name, size and generation", api.ErrObjName, g, e)
			b, g, e := s.Get(key)
			refused("Get, name", api.ErrObjName, g+uint64(len(b)), e)
			b, e = s.Slice(key, -1, 9)
			refused("Slice, name and size", api.ErrObjName, uint64(len(b)), e)
			refused("Delete, name", api.ErrObjName, 0, s.Delete(key))
		}
		for _, key := range []string{"a", "none"} {
			g, e := s.Put(key, big)
			refused("Put, size", api.ErrObjSize, g, e)
			g, e = s.PutIf(key, big, 7)
			refused("PutIf, size and generation", api.ErrObjSize, g, e)
			g, e = s.PutIf(key, big, 0)
			refused("PutIf, size", api.ErrObjSize, g, e)
		}
	}
	for _, key := range []string{"a", "none"} {
		g, e := s.Put(key, nil)
		refused("Put, off", api.ErrDiskOff, g, e)
		for gen := range uint64(4) {
			g, e = s.PutIf(key, nil, gen)
			refused("PutIf, off and generation", api.ErrDiskOff, g, e)
		}
		b, g, e := s.Get(key)
		refused("Get, off", api.ErrDiskOff, g+uint64(len(b)), e)
		b, e = s.Slice(key, -1, 9)
		refused("Slice, off and size", api.ErrDiskOff, uint64(len(b)), e)
		refused("Delete, off", api.ErrDiskOff, 0, s.Delete(key))
	}
	if len(s.List("")) != 0 {
		t.Errorf("P11.3: List, off: %q", s.List(""))
	}
	if d.Writes() != writes || d.Up() {
		t.Errorf("R2: refused calls have written: %d, not %d", d.Writes(), writes)
	}
	d.On()
	if got := peek.Files(d); !peek.Same(got, before) {
		t.Errorf("R2: refused calls have changed the files: %q", got)
	}
	b, e := s.Slice("none", -1, 9)
	refused("Slice, none and size", api.ErrObjNone, uint64(len(b)), e)
}

func TestSizes(t *testing.T) {
	for _, size := range []int{0, 1, 65535, 65536, 65537, api.MaxObject - 1, api.MaxObject} {
		d := disk.New()
		s := opened(t, d)
		data := strings.Repeat("tide", size/4+1)[:size]
		for gen := range uint64(3) {
			if g, e := s.Put("k", []byte(data)); g != gen+1 || e != api.OK {
				t.Errorf("P11.2: %d bytes: %d, %d", size, g, e)
			}
		}
		tells(t, "P11.3", s, "k", data, 3)
		if b, _ := d.Read("o/k"); string(b) != laid(3, data) {
			t.Errorf("P11.2: %d bytes: the file is another one", size)
		}
	}
	x := newTwin(t, disk.New())
	x.put("k", "old")
	for _, size := range []int{api.MaxObject + 1, api.MaxObject + 2, 2 * api.MaxObject, api.MaxFile + 1} {
		for _, key := range []string{"k", "l"} {
			x.put(key, strings.Repeat("x", size))
			x.putIf(key, strings.Repeat("x", size), 1)
		}
	}
	x.ask("k", "l")
}

// TestPutsWrites: just the chapter's writes, with and without an old object and an old draft, and wherever the power goes.
func TestPutsWrites(t *testing.T) {
	for _, files := range [][]string{nil, {"o/k", laid(1, "old")}, {"t/k", "draft"}, {"t/k", ""}, {"o/k", laid(127, "old"), "t/k", laid(128, "newer")}, {"o/k", "junk", "t/k", "junk"}, {"k", "x", "o/kk", laid(4, "x"), "t/kk", laid(4, "x"), "t/", "x"}} {
		for writes := -1; writes < 5; writes++ {
			x := newTwin(t, disk.New())
			x.both("fill", func(d *disk.Disk) { fill(t, d, files...) })
			x.both("arm", func(d *disk.Disk) { d.Arm(writes, 3) })
			x.put("k", "new")
			x.both("on", (*disk.Disk).On)
			x.ask("k", "kk")
			x.putIf("k", "newer", 1)
			x.open()
			x.ask("k", "kk")
		}
	}
	d := disk.New()
	opened(t, d).Put("k", []byte("v"))
	if d.Writes() != 3 {
		t.Errorf("P11.2: %d writes", d.Writes())
	}
}

func TestGenerationsRiseByOne(t *testing.T) {
	d := disk.New()
	s := opened(t, d)
	for want := uint64(1); want < 400; want++ {
		g, e := s.Put("k", nil)
		if want%2 == 0 {
			s = opened(t, d)
		}
		if want%3 == 0 {
			want++
			g, e = s.PutIf("k", []byte("x"), want-1)
		}
		if g != want || e != api.OK {
			t.Fatalf("P11.2: %d, %d; want %d", g, e, want)
		}
	}
	for _, gen := range []uint64{1, 126, 127, 128, 1<<14 - 1, 1 << 31, 1<<32 - 1, 1 << 63, math.MaxUint64 - 1} {
		x := newTwin(t, lay(t, "o/k", laid(gen, "old")))
		x.ask("k")
		x.putIf("k", "new", gen+1)
		x.putIf("k", "new", gen-1)
		x.putIf("k", "new", 0)
		x.putIf("k", "new", gen)
		x.ask("k")
	}
	s = opened(t, lay(t, "o/k", laid(math.MaxUint64, "old")))
	tells(t, "P11.3", s, "k", "old", math.MaxUint64)
	if g, e := s.Put("k", []byte("new")); g != 1 || e != api.OK {
		t.Errorf("P11.2: behind the last number: %d, %d", g, e)
	}
	tells(t, "P11.4", s, "k", "new", 1)
}

func TestPutIf(t *testing.T) {
	for stands := range uint64(5) {
		for gen := range uint64(7) {
			x := newTwin(t, disk.New())
			for range stands {
				x.put("k", "old")
			}
			x.put("other", "one")
			x.put("other", "two")
			if e := x.putIf("k", "new", gen); (e == api.OK) != (stands == gen) {
				t.Fatalf("P11.2: generation %d, asked for %d: %d", stands, gen, e)
			}
			x.ask("k", "other")
		}
	}
	for _, gen := range []uint64{math.MaxUint64, 1 << 63, 1<<32 + 1, 1<<8 + 1} {
		x := newTwin(t, disk.New())
		x.putIf("k", "new", gen)
		x.put("k", "new")
		x.putIf("k", "newer", gen)
		x.ask("k")
	}
}

func TestSlice(t *testing.T) {
	ends := []int{math.MinInt, -1 << 32, -2, -1, 0, 1, 2, 3, 4, 5, 6, 9, 1 << 32, math.MaxInt}
	for _, data := range []string{"", "a", "abcd"} {
		x := newTwin(t, disk.New())
		x.put("k", data)
		for _, from := range ends {
			for _, to := range ends {
				x.slice("k", from, to)
				x.slice("none", from, to)
			}
		}
	}
}

func TestDelete(t *testing.T) {
	x := newTwin(t, disk.New())
	for _, key := range []string{"a", "b", "a/b"} {
		x.put(key, "one")
		x.put(key, "two")
	}
	x.remove("a")
	x.remove("a")
	x.ask("a", "b", "a/b")
	x.put("a", "three")
	if _, gen, _ := x.s.Get("a"); gen != 1 {
		t.Errorf("P11.3: a later one begins at generation %d", gen)
	}
	x.remove("b")
	x.putIf("b", "four", 2)
	x.putIf("b", "four", 0)
	x.ask("a", "b", "a/b")
	x.both("arm", func(d *disk.Disk) { d.Arm(0, 0) })
	if e := x.remove("a"); e != api.ErrDiskOff {
		t.Errorf("P11.3: the disk's error: %d", e)
	}
	x.both("on", (*disk.Disk).On)
	x.ask("a", "b", "a/b")
	x.remove("a")
	x.both("off", func(d *disk.Disk) { d.Off(9) })
	x.both("on", (*disk.Disk).On)
	x.ask("a", "b", "a/b")
}

func TestList(t *testing.T) {
	x := newTwin(t, disk.New())
	for _, key := range []string{"b", "a", "a/b", "a.b", "a-b", "a0", "ab", "z/0", "z/00", "z/-", "o", "t", "-o/x", "x/o/y"} {
		x.put(key, key)
	}
	x.both("junk", func(d *disk.Disk) {
		d.Append("t/c", []byte(laid(1, "c")))
		d.Append("c", []byte(laid(1, "c")))
		d.Append("oc", []byte(laid(1, "c")))
	})
	for prefix, want := range map[string]string{
		"": "-o/x a a-b a.b a/b a0 ab b o t x/o/y z/- z/0 z/00", "a": "a a-b a.b a/b a0 ab", "a/": "a/b", "z/0": "z/0 z/00", "z/00": "z/00", "z/000": "",
		"o": "o", "o/": "", "t": "t", "t/": "", "c": "", "A": "", "\xff": "", "\x00": "", "a/b/": "", strings.Repeat("a", 100): "",
	} {
		x.list(prefix)
		if got := strings.Join(x.s.List(prefix), " "); got != want {
			t.Errorf("P11.3: List(%q): %q; want %q", prefix, got, want)
		}
	}
	x.both("off", func(d *disk.Disk) { d.Off(0) })
	x.list("")
	x.list("a")
}

// turned has each text that is s but for one bit.
func turned(s string) []string {
	var out []string
	for i := range 8 * len(s) {
		b := []byte(s)
		b[i/8] ^= 1 << (i % 8)
		out = append(out, string(b))
	}
	return out
}

// TestFilesThatAreNoObjects are no error: there is nothing of that key, and a Put makes it the first one.
func TestFilesThatAreNoObjects(t *testing.T) {
	whole := laid(300, "data")
	files := []string{"junk", laid(0, ""), laid(0, "data"), laid(3, strings.Repeat("x", api.MaxObject+1)),
		frameOf(""), frameOf("") + "data", frameOf("\x01\x00"), frameOf("\x01\x01") + "data", frameOf("\x81"), frameOf("\x81\x00"), frameOf("\x80\x00") + "x",
		frameOf("\xff\xff\xff\xff\xff\xff\xff\xff\xff\x02"), frameOf("\xff\xff\xff\xff\xff\xff\xff\xff\xff\xff\x01")}
	files = append(files, turned(whole[:7])...)
	for n := range 7 {
		files = append(files, whole[:n])
	}
	for _, file := range files {
		x := newTwin(t, lay(t, "o/k", file, "o/l", laid(2, "there")))
		if b, gen, e := x.s.Get("k"); b != nil || gen != 0 || e != api.ErrObjNone {
			t.Errorf("P11.3: %.20x: %.20x, %d, %d", file, b, gen, e)
		}
		x.ask("k", "l")
		x.remove("k")
		x.putIf("k", "new", 1)
		x.putIf("k", "new", 0)
		x.ask("k", "l")
	}
	for n := 7; n <= len(whole); n++ {
		s := opened(t, lay(t, "o/k", whole[:n]))
		tells(t, "P11.3", s, "k", whole[7:n], 300)
	}
}

// TestFilesUnderOtherNames are no objects either: neither told nor touched, but for drafts.
func TestFilesUnderOtherNames(t *testing.T) {
	names := []string{"k", "o", "o/", "o/o/", "o/o/k", "o/t/k", "o/" + strings.Repeat("q", 57), "o/" + strings.Repeat("q", 62), "oo/k", "p/k", "t", "tt/k", "u/k", "/o/k", "/t/k", "x/t/k"}
	var files []string
	for _, name := range names {
		files = append(files, name, laid(5, name))
	}
	d := lay(t, files...)
	before, writes := peek.Files(d), d.Writes()
	x := newTwin(t, d)
	if got := x.s.List(""); len(got) != 0 {
		t.Errorf("P11.3: %q", got)
	}
	x.ask("k", "o", "o/k", "t/k", "q", "p/k", strings.Repeat("q", 57))
	if d.Writes() != writes || !peek.Same(peek.Files(d), before) {
		t.Errorf("P11.1: other files are touched: %q", peek.Files(d))
	}
	x.put("k", "new")
	x.ask("k")
}

func TestOpenDeletesDrafts(t *testing.T) {
	files := []string{"t/", "", "t/a", laid(2, "new"), "t/a/b", "x", "t/o/a", "x", "t/t/a", "x", "t/" + strings.Repeat("q", 62), "x", "o/a", laid(1, "old"), "t", "x", "tt/a", "x", "a", "x"}
	for writes := range 9 {
		d := lay(t, files...)
		d.Append("t/z", []byte("loose"))
		d.Append("t/0", []byte("loose"))
		d.Arm(writes, 2)
		x := shutTwin(t, d)
		if e := x.open(); (e == api.OK) != (writes >= 8) {
			t.Errorf("P11.1: %d writes: %d", writes, e)
		}
		x.both("on", (*disk.Disk).On)
		if left := len(d.List("t/")); left != max(0, 8-writes) {
			t.Errorf("P11.1: %d writes: %d drafts are left", writes, left)
		}
		if e := x.open(); e != api.OK {
			t.Errorf("P11.4: not opened again: %d", e)
		}
		x.ask("a", "z", "0", "a/b")
	}
}

func TestOpenOfDiskThatIsOff(t *testing.T) {
	for _, files := range [][]string{nil, {"o/k", laid(1, "x")}, {"t/k", "x"}} {
		d := lay(t, files...)
		d.Off(0)
		before, writes := peek.Files(d), d.Writes()
		if s, e := Open(d); s != nil || e != api.ErrDiskOff {
			t.Errorf("P11.1: %v, %d", s != nil, e)
		}
		if d.Up() || d.Writes() != writes || !peek.Same(peek.Files(d), before) {
			t.Errorf("P11.1: the disk has changed: %q", peek.Files(d))
		}
	}
}

// TestStoresShareADisk: what stands there is what the disk has, whoever put it.
func TestStoresShareADisk(t *testing.T) {
	d := disk.New()
	a, b := opened(t, d), opened(t, d)
	a.Put("k", []byte("by a"))
	tells(t, "P11.3", b, "k", "by a", 1)
	one, e := a.PutIf("k", []byte("a again"), 1)
	two, f := b.PutIf("k", []byte("by b"), 1)
	if one != 2 || e != api.OK || two != 2 || f != api.ErrObjGen {
		t.Errorf("P11.4: of two PutIf with one generation: %d, %d; %d, %d", one, e, two, f)
	}
	tells(t, "P11.4", b, "k", "a again", 2)
	if e := b.Delete("k"); e != api.OK || a.Delete("k") != api.ErrObjNone || len(a.List("")) != 0 {
		t.Errorf("P11.3: %d, %q", e, a.List(""))
	}
	if g, e := a.PutIf("k", nil, 2); g != 0 || e != api.ErrObjGen {
		t.Errorf("P11.4: %d, %d", g, e)
	}
}
