package disk

import (
	"fmt"
	"slices"
	"strings"
	"testing"

	"tidewrack/api"
)

func must(t *testing.T, es ...api.Errno) {
	t.Helper()
	for i, e := range es {
		if e != api.OK {
			t.Fatalf("call %d: %d", i, e)
		}
	}
}

func holds(t *testing.T, d *Disk, name, want string) {
	t.Helper()
	if b, e := d.Read(name); e != api.OK || string(b) != want {
		t.Errorf("P6.3: Read(%q): %q, %d; want %q", name, b, e, want)
	}
}

func TestNewIsEmptyAndOn(t *testing.T) {
	d := New()
	if !d.Up() || len(d.List("")) != 0 || d.Writes() != 0 {
		t.Errorf("P6.1: %v %q %d", d.Up(), d.List(""), d.Writes())
	}
	for i := range 100 {
		must(t, d.Append("a", []byte{byte(i)}))
	}
	if e := New().Append("a", nil); e != api.OK {
		t.Errorf("P6.1: %d", e)
	}
}

func TestExamples(t *testing.T) {
	d := New()
	must(t, d.Append("a", []byte{1, 2}), d.Sync("a"), d.Append("a", []byte{3, 4}))
	d.Off(1)
	d.On()
	holds(t, d, "a", "\x01\x02\x03")

	d = New()
	d.Arm(1, 0)
	must(t, d.Append("a", []byte{1}))
	if e := d.Sync("a"); e != api.ErrDiskOff {
		t.Errorf("P6.4: %d", e)
	}
	d.On()
	holds(t, d, "a", "")

	d = New()
	if e := d.Append("A", []byte{1}); e != api.ErrDiskName {
		t.Errorf("P6.2: %d", e)
	}
	if b, e := d.Read("a"); e != api.ErrDiskNone || b != nil {
		t.Errorf("P6.3: %v, %d", b, e)
	}
}

// asName: what each call that takes a name says to it, on a disk that has just the file "there".
func asName(name string) []api.Errno {
	fresh := func() *Disk {
		d := New()
		d.Append("there", []byte("x"))
		return d
	}
	_, e := fresh().Read(name)
	return []api.Errno{fresh().Append(name, nil), fresh().Sync(name), fresh().Rename(name, "there"), fresh().Rename("there", name), fresh().Delete(name), e}
}

func TestNames(t *testing.T) {
	good := []api.Errno{api.OK, api.ErrDiskNone, api.ErrDiskNone, api.OK, api.ErrDiskNone, api.ErrDiskNone}
	bad := slices.Repeat([]api.Errno{api.ErrDiskName}, 6)
	check := func(name string, want []api.Errno) {
		t.Helper()
		if got := asName(name); !slices.Equal(got, want) {
			t.Errorf("P6.2: %q: %v; want %v", name, got, want)
		}
	}
	for c := range 256 {
		want := bad
		if strings.IndexByte("abcdefghijklmnopqrstuvwxyz0123456789/.-", byte(c)) >= 0 {
			want = good
		}
		b := string([]byte{byte(c)})
		for _, name := range []string{b, b + "a", "a" + b, "a" + b + "a"} {
			check(name, want)
		}
	}
	for _, n := range []int{1, 2, 63, 64} {
		check(strings.Repeat("q", n), good)
	}
	for _, name := range []string{"", strings.Repeat("q", 65), strings.Repeat("q", 1<<16), "é", "a\x00", "ａ"} {
		check(name, bad)
	}
	for _, name := range []string{"/", "//", "..", "-", "a/", "../a"} {
		check(name, good)
	}
}

func TestFirstNamedErrorIsTold(t *testing.T) {
	d := New()
	big := make([]byte, api.MaxFile+1)
	must(t, d.Append("a", []byte("x")))
	if e := d.Append("A", big); e != api.ErrDiskName {
		t.Errorf("P6.2: Append: %d", e)
	}
	for _, pair := range [][2]string{{"A", "b"}, {"none", "B"}, {"a", "B"}, {"A", "B"}} {
		if e := d.Rename(pair[0], pair[1]); e != api.ErrDiskName {
			t.Errorf("P6.2: Rename%q: %d", pair, e)
		}
	}
	d.Off(0)
	for _, name := range []string{"a", "none", "A", ""} {
		b, e := d.Read(name)
		got := []api.Errno{d.Append(name, big), d.Append(name, nil), d.Sync(name), d.Rename(name, "a"), d.Rename("a", name), d.Delete(name), e}
		if !slices.Equal(got, slices.Repeat([]api.Errno{api.ErrDiskOff}, 7)) || b != nil {
			t.Errorf("P6.2: off, %q: %v, %q", name, got, b)
		}
	}
}

func TestRefusedCallsChangeNothing(t *testing.T) {
	d, m := New(), newModel()
	both(t, d, m, step{kind: "append", name: "a", more: "xy"}, "a")
	both(t, d, m, step{kind: "arm", n: 0, keep: 1})
	for _, s := range []step{
		{kind: "append", name: "A"}, {kind: "append", name: ""}, {kind: "append", name: "a", more: strings.Repeat("x", api.MaxFile-1)},
		{kind: "append", name: "b", more: strings.Repeat("x", api.MaxFile+1)}, {kind: "sync", name: "b"}, {kind: "sync", name: "B"},
		{kind: "rename", name: "b", more: "a"}, {kind: "rename", name: "b", more: "b"}, {kind: "rename", name: "a", more: "B"}, {kind: "rename", name: "A", more: "a"},
		{kind: "delete", name: "b"}, {kind: "delete", name: "B"},
	} {
		both(t, d, m, s, "a", "b")
	}
	both(t, d, m, step{kind: "sync", name: "a"}, "a")
	if d.Up() {
		t.Error("P6.4: refused calls are no writes: it was armed still")
	}
}

func TestFileThatIsFull(t *testing.T) {
	d := New()
	must(t, d.Append("a", make([]byte, api.MaxFile-1)), d.Append("a", []byte{1}), d.Append("a", nil))
	if e := d.Append("a", []byte{1}); e != api.ErrDiskFull {
		t.Errorf("P6.2: %d", e)
	}
	if e := d.Append("b", make([]byte, api.MaxFile+1)); e != api.ErrDiskFull || len(d.List("")) != 1 {
		t.Errorf("P6.2: %d, %q", e, d.List(""))
	}
	must(t, d.Append("b", make([]byte, api.MaxFile)))
	d.Off(3)
	d.On()
	must(t, d.Append("a", make([]byte, api.MaxFile-3)))
	if b, e := d.Read("a"); e != api.OK || len(b) != api.MaxFile {
		t.Errorf("P6.2: behind a power cut there is room again: %d, %d", len(b), e)
	}
}

func TestDiskThatIsFull(t *testing.T) {
	d := New()
	for i := range api.MaxFiles {
		if e := d.Append(fmt.Sprint("f", i), nil); e != api.OK {
			t.Fatalf("P6.2: file %d: %d", i, e)
		}
	}
	if e := d.Append("more", nil); e != api.ErrDiskFull || len(d.List("m")) != 0 {
		t.Errorf("P6.2: file MaxFiles + 1: %d", e)
	}
	must(t, d.Append("f7", []byte("x")), d.Rename("f8", "more"))
	if e := d.Append("f8", nil); e != api.ErrDiskFull {
		t.Errorf("P6.2: a renamed file is one still: %d", e)
	}
	must(t, d.Rename("f9", "f10"), d.Append("f9", nil))
	if e := d.Append("f8", nil); e != api.ErrDiskFull {
		t.Errorf("P6.2: %d", e)
	}
	must(t, d.Delete("f11"), d.Append("f8", nil))
	if got := d.List(""); len(got) != api.MaxFiles || !slices.IsSorted(got) {
		t.Errorf("P6.3: %d names", len(got))
	}
}

func TestRename(t *testing.T) {
	d := New()
	must(t, d.Append("a", []byte("ab")), d.Sync("a"), d.Append("a", []byte("c")), d.Append("b", []byte("old")), d.Sync("b"))
	must(t, d.Rename("a", "b"))
	holds(t, d, "b", "abc")
	if _, e := d.Read("a"); e != api.ErrDiskNone {
		t.Errorf("P6.2: the old name: %d", e)
	}
	d.Off(0)
	d.On()
	holds(t, d, "b", "ab")
	if e := d.Rename("a", "b"); e != api.ErrDiskNone {
		t.Errorf("P6.2: %d", e)
	}
	must(t, d.Append("b", []byte("de")), d.Rename("b", "b"))
	holds(t, d, "b", "abde")
	if w := d.Writes(); w != 8 {
		t.Errorf("P6.4: a rename to its own name is a write: %d", w)
	}
	d.Off(1)
	d.On()
	holds(t, d, "b", "abd")
}

func TestDeleteHoldsAtOnce(t *testing.T) {
	d := New()
	must(t, d.Append("a", []byte("ab")), d.Sync("a"), d.Delete("a"))
	d.Off(9)
	d.On()
	if _, e := d.Read("a"); e != api.ErrDiskNone || d.Delete("a") != api.ErrDiskNone {
		t.Errorf("P6.2: %d", e)
	}
	must(t, d.Append("a", []byte("c")))
	d.Off(0)
	d.On()
	holds(t, d, "a", "")
}

func TestList(t *testing.T) {
	d := New()
	for _, n := range []string{"b", "a", "a/b", "a.b", "a-b", "a0", "ab", "z/0", "z/00", "z/-"} {
		must(t, d.Append(n, nil))
	}
	for prefix, want := range map[string]string{
		"": "a a-b a.b a/b a0 ab b z/- z/0 z/00", "a": "a a-b a.b a/b a0 ab", "a/": "a/b", "z/0": "z/0 z/00", "z/00": "z/00",
		"z/000": "", "q": "", "A": "", "\xff": "", "\x00": "", "a/b/": "",
	} {
		if got := d.List(prefix); strings.Join(got, " ") != want {
			t.Errorf("P6.3: List(%q): %q; want %q", prefix, got, want)
		}
	}
	got := d.List("z")
	got[0] = "changed"
	_ = append(got[:1], "more")
	if again := d.List("z"); strings.Join(again, " ") != "z/- z/0 z/00" {
		t.Errorf("R3: %q", again)
	}
	d.Off(0)
	if got := d.List(""); len(got) != 0 {
		t.Errorf("P6.3: off: %q", got)
	}
}

func TestMemoryIsNotShared(t *testing.T) {
	d := New()
	room := []byte("abcdefgh")
	must(t, d.Append("a", room[:3]))
	if string(room) != "abcdefgh" {
		t.Errorf("R3: what was handed in was changed: %q", room)
	}
	room[0] = 'Z'
	must(t, d.Append("a", []byte("de")))
	if string(room) != "Zbcdefgh" {
		t.Errorf("R3: the spare room was written: %q", room)
	}
	holds(t, d, "a", "abcde")
	one, _ := d.Read("a")
	two, _ := d.Read("a")
	one[1] = 'Y'
	_ = append(one[:2], 'X', 'X', 'X', 'X')
	if string(two) != "abcde" {
		t.Errorf("R3: two answers share memory: %q", two)
	}
	holds(t, d, "a", "abcde")
	must(t, d.Append("b", two[:2]), d.Rename("b", "c"))
	two[0] = 'W'
	holds(t, d, "c", "ab")
	d.Off(0)
	d.On()
	after, _ := d.Read("a")
	if spare := after[:cap(after)]; strings.Contains(string(spare), "a") {
		t.Errorf("R3: what was lost is handed out behind the length: %q", spare)
	}
}

func TestManySmallAppends(t *testing.T) {
	d := New()
	for i := range api.MaxFile {
		if e := d.Append("a", []byte{byte(i >> 8)}); e != api.OK {
			t.Fatalf("P6.2: byte %d: %d", i, e)
		}
	}
	b, _ := d.Read("a")
	for i, c := range b {
		if c != byte(i>>8) {
			t.Fatalf("P6.2: byte %d: %d", i, c)
		}
	}
	if len(b) != api.MaxFile || d.Writes() != api.MaxFile {
		t.Errorf("P6.2: %d bytes, %d writes", len(b), d.Writes())
	}
}
