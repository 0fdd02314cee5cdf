package kv

import (
	"bytes"
	"encoding/binary"
	"fmt"
	"hash/crc32"
	"math"
	"slices"
	"strings"
	"testing"

	"tidewrack/api"
	"tidewrack/disk"
	"tidewrack/peek"
)

func opened(t *testing.T, d *disk.Disk) *Store {
	t.Helper()
	s, e := Open(d)
	if e != api.OK || s == nil {
		t.Fatalf("P12.1: %d", e)
	}
	return s
}

// framed is a record's frame, by the library's sum and numbers.
func framed(rec string) string {
	b := binary.AppendUvarint(nil, uint64(len(rec)))
	return string(binary.BigEndian.AppendUint32(b, crc32.ChecksumIEEE([]byte(rec)))) + rec
}

// logged has a disk whose log, one segment, holds these records.
func logged(recs ...string) *disk.Disk {
	d := disk.New()
	for _, rec := range recs {
		d.Append("kv/s00000001", []byte(framed(rec)))
	}
	return d
}

// tells: Get's answer, held against what is to stand there.
func tells(t *testing.T, promise string, s *Store, key, data string, version uint64) {
	t.Helper()
	if b, v, e := s.Get(key); e != api.OK || v != version || string(b) != data {
		t.Errorf("%s: Get(%.20q): %.40q, %d, %d; want %.40q, %d", promise, key, b, v, e, data, version)
	}
}

// sets: a Set that is to hold.
func sets(t *testing.T, s *Store, key, data string, version uint64) {
	t.Helper()
	if v, e := s.Set(key, []byte(data), version); v != version+1 || e != api.OK {
		t.Fatalf("P12.3: Set(%.20q, %.20q, %d): %d, %d", key, data, version, v, e)
	}
}

func TestExamples(t *testing.T) {
	s := opened(t, disk.New())
	sets(t, s, "a", "\x01", 0)
	if v, e := s.Set("a", []byte{2}, 0); v != 1 || e != api.ErrKvVersion {
		t.Errorf("P12.3: %d, %d", v, e)
	}
	sets(t, s, "a", "\x02", 1)
	tells(t, "P12.2", s, "a", "\x02", 2)
	tells(t, "P12.2", s, "b", "", 0)
}

func TestKeysAreAnyBytesUpTo64(t *testing.T) {
	var good []string
	for c := range 256 {
		good = append(good, string([]byte{byte(c)}))
	}
	good = append(good, "ha/t/123", "A b", "é", "\x00\x00", "a\n", strings.Repeat("k", 63), strings.Repeat("\xff", 64))
	for _, key := range good {
		d := disk.New()
		s := opened(t, d)
		tells(t, "P12.2", s, key, "", 0)
		sets(t, s, key, "v", 0)
		tells(t, "P12.2", s, key, "v", 1)
		tells(t, "P12.1", opened(t, d), key, "v", 1)
		if got := s.Keys(key); len(got) != 1 || got[0] != key {
			t.Errorf("P12.4: %q: %q", key, got)
		}
	}
	for _, key := range []string{"", strings.Repeat("k", 65), strings.Repeat("k", 66), strings.Repeat("k", 1<<17)} {
		d := disk.New()
		s := opened(t, d)
		if b, v, e := s.Get(key); b != nil || v != 0 || e != api.ErrKvName {
			t.Errorf("P12.2: %d bytes: %q, %d, %d", len(key), b, v, e)
		}
		if v, e := s.Set(key, nil, 0); v != 0 || e != api.ErrKvName {
			t.Errorf("P12.3: %d bytes: %d, %d", len(key), v, e)
		}
		if d.Writes() != 0 || len(s.Keys("")) != 0 {
			t.Errorf("R2: %d bytes: %d writes, %q", len(key), d.Writes(), s.Keys(""))
		}
	}
}

func TestFirstNamedErrorIsTold(t *testing.T) {
	d := disk.New()
	s := opened(t, d)
	sets(t, s, "a", "x", 0)
	sets(t, s, "a", "y", 1)
	big := make([]byte, 1<<17)
	before, writes := peek.Files(d), d.Writes()
	refused := func(what, key string, version uint64, stands uint64, want api.Errno) {
		t.Helper()
		if v, e := s.Set(key, big, version); v != stands || e != want {
			t.Errorf("P12.3: %s: %d, %d; want %d, %d", what, v, e, stands, want)
		}
	}
	for _, off := range []bool{false, true} {
		if off {
			d.Off(9)
			d.Arm(0, 0)
		}
		for _, key := range []string{"", strings.Repeat("k", 65)} {
			refused("name, version and length", key, 7, 0, api.ErrKvName)
			refused("name and length", key, 0, 0, api.ErrKvName)
			if b, v, e := s.Get(key); b != nil || v != 0 || e != api.ErrKvName {
				t.Errorf("P12.2: name: %q, %d, %d", b, v, e)
			}
		}
		if off {
			break
		}
		refused("version and length", "a", 1, 2, api.ErrKvVersion)
		refused("version and length", "a", 3, 2, api.ErrKvVersion)
		refused("version and length", "none", 1, 0, api.ErrKvVersion)
		refused("length", "a", 2, 0, api.ErrWalLong)
		refused("length", "none", 0, 0, api.ErrWalLong)
	}
	for _, key := range []string{"a", "none"} {
		for version := range uint64(4) {
			refused("off, version and length", key, version, 0, api.ErrDiskOff)
			if v, e := s.Set(key, nil, version); v != 0 || e != api.ErrDiskOff {
				t.Errorf("P12.3: off: %d, %d", v, e)
			}
		}
		if b, v, e := s.Get(key); b != nil || v != 0 || e != api.ErrDiskOff {
			t.Errorf("P12.2: off: %q, %d, %d", b, v, e)
		}
	}
	for _, prefix := range []string{"", "a", "z"} {
		if got := s.Keys(prefix); len(got) != 0 {
			t.Errorf("P12.4: off: %q", got)
		}
	}
	if d.Writes() != writes || d.Up() {
		t.Errorf("R2: refused calls have written: %d, not %d", d.Writes(), writes)
	}
	d.On()
	if !peek.Same(peek.Files(d), before) {
		t.Errorf("R2: refused calls have changed the files: %q", peek.Files(d))
	}
	tells(t, "R2", s, "a", "y", 2)
}

func TestVersions(t *testing.T) {
	for stands := range uint64(5) {
		for version := range uint64(7) {
			x := newTwin(t, disk.New())
			for v := range stands {
				x.set("k", fmt.Sprint("old", v), v)
			}
			x.set("other", "one", 0)
			x.set("other", "two", 1)
			if e := x.set("k", "new", version); (e == api.OK) != (stands == version) {
				t.Fatalf("P12.3: version %d, asked for %d: %d", stands, version, e)
			}
			x.ask("k", "other")
			x.open()
			x.ask("k", "other")
		}
	}
	for _, version := range []uint64{math.MaxUint64, 1 << 63, 1<<32 + 1, 1<<8 + 1} {
		x := newTwin(t, disk.New())
		x.set("k", "new", version)
		x.set("k", "new", 0)
		x.set("k", "newer", version)
		x.ask("k")
	}
	for _, version := range []uint64{1, 126, 127, 128, 1<<14 - 1, 1 << 31, 1<<32 - 1, 1 << 63, math.MaxUint64 - 1} {
		x := newTwin(t, logged(laid("k", version, "old")))
		x.ask("k")
		x.set("k", "new", version+1)
		x.set("k", "new", version-1)
		x.set("k", "new", version)
		x.open()
		x.ask("k")
	}
}

// TestBehindTheLastVersion: only a log made by hand comes there; what is written has to be read again.
func TestBehindTheLastVersion(t *testing.T) {
	d := logged(laid("k", math.MaxUint64, "old"))
	s := opened(t, d)
	tells(t, "P12.1", s, "k", "old", math.MaxUint64)
	if v, e := s.Set("k", []byte("new"), math.MaxUint64); v != 1 || e != api.OK {
		t.Errorf("P12.3: %d, %d", v, e)
	}
	tells(t, "P12.3", s, "k", "new", 1)
	tells(t, "P12.5", opened(t, d), "k", "new", 1)
}

func TestLongestRecord(t *testing.T) {
	for _, key := range []string{"k", strings.Repeat("k", 64)} {
		for _, version := range []uint64{0, 126, 127, 1<<14 - 1} {
			d := disk.New()
			if version > 0 {
				d = logged(laid(key, version, "old"))
			}
			most := 65536 - len(laid(key, version+1, "")) - 2
			x := newTwin(t, d)
			for _, more := range []int{1, 2, 3, 1000, 1 << 20} {
				if e := x.set(key, strings.Repeat("x", most+more), version); e != api.ErrWalLong {
					t.Fatalf("P12.3: %d bytes: %d", most+more, e)
				}
			}
			x.ask(key)
			data := strings.Repeat("y", most)
			if e := x.set(key, data, version); e != api.OK {
				t.Fatalf("P12.3: %d bytes: %d", most, e)
			}
			x.ask(key)
			tells(t, "P12.5", opened(t, d), key, data, version+1)
		}
	}
}

// TestSetsWrites: just the chapter's record in the chapter's folder, appended and synced.
func TestSetsWrites(t *testing.T) {
	d := disk.New()
	s := opened(t, d)
	if d.Writes() != 0 {
		t.Errorf("P12.1: %d writes", d.Writes())
	}
	sets(t, s, "a", "one", 0)
	sets(t, s, "ab", "", 0)
	sets(t, s, "a", "two", 1)
	want := []api.File{{Name: "kv/s00000001", Data: []byte(framed(laid("a", 1, "one")) + framed(laid("ab", 1, "")) + framed(laid("a", 2, "two")))}}
	if d.Writes() != 6 || !peek.Same(peek.Files(d), want) || !peek.Same(peek.Safe(d), want) {
		t.Errorf("P12.3: %d writes, %q, safe %q", d.Writes(), peek.Files(d), peek.Safe(d))
	}
	for range 3 {
		s.Get("a")
		s.Get("none")
		s.Keys("")
		s = opened(t, d)
	}
	if d.Writes() != 6 || !peek.Same(peek.Files(d), want) {
		t.Errorf("P12.2: %d writes, %q", d.Writes(), peek.Files(d))
	}
}

func TestLaterRecordHolds(t *testing.T) {
	s := opened(t, logged(laid("a", 1, "x"), laid("b", 7, "y"), laid("a", 5, "z"), laid("b", 3, ""), laid("a", 5, "again"), laid("c", 1, "")))
	tells(t, "P12.1", s, "a", "again", 5)
	tells(t, "P12.1", s, "b", "", 3)
	tells(t, "P12.1", s, "c", "", 1)
	tells(t, "P12.1", s, "d", "", 0)
	if got := strings.Join(s.Keys(""), " "); got != "a b c" {
		t.Errorf("P12.4: %q", got)
	}
	d := logged(laid("a", 1, "in a segment that the checkpoint stands for"))
	d.Append("kv/c00000001", []byte(framed(laid("b", 2, "kept"))))
	d.Append("kv/s00000002", []byte(framed(laid("c", 3, "behind"))))
	s = opened(t, d)
	tells(t, "P12.1", s, "a", "", 0)
	tells(t, "P12.1", s, "b", "kept", 2)
	tells(t, "P12.1", s, "c", "behind", 3)
}

// wrongRecords have frames that are whole, and say nothing.
func wrongRecords() []string {
	whole := laid("key", 300, "data")
	wrong := []string{
		whole + "\x00", whole + "x", laid("", 1, "x"), laid("", 0, ""), laid("k", 0, ""), laid("k", 0, "x"),
		laid(strings.Repeat("k", 65), 1, "x"), laid(strings.Repeat("k", 200), 1, "x"),
		"\x81\x00k\x01\x00", "\x01k\x81\x00\x00", "\x01k\x01\x80\x00", "\x01k\x01\x81\x00x",
		"\x01k\xff\xff\xff\xff\xff\xff\xff\xff\xff\x02\x00", "\x01k\x80\x80\x80\x80\x80\x80\x80\x80\x80\x80\x01\x00",
		"\x01k\x01\x02x", "\x05k\x01\x00", "\xff\xff\xff\xff\xff\xff\xff\xff\xff\x01k\x01\x00", "\x01k\x01\xff\xff\xff\xff\xff\xff\xff\xff\xff\x01x",
	}
	for n := range len(whole) {
		wrong = append(wrong, whole[:n])
	}
	return wrong
}

func TestRecordsThatSayNothing(t *testing.T) {
	good := laid("g", 1, "x")
	for _, rec := range wrongRecords() {
		for _, recs := range [][]string{{rec}, {good, rec}, {rec, good}, {good, rec, good}} {
			d := logged(recs...)
			before := peek.Files(d)
			if s, e := Open(d); s != nil || e != api.ErrWalForm {
				t.Errorf("P12.1: %.20x: %v, %d", rec, s != nil, e)
			}
			if !peek.Same(peek.Files(d), before) {
				t.Errorf("P12.1: %.20x: the files have changed", rec)
			}
		}
		d := disk.New()
		d.Append("kv/c00000003", []byte(framed(rec)))
		if s, e := Open(d); s != nil || e != api.ErrWalForm {
			t.Errorf("P12.1: %.20x in a checkpoint: %v, %d", rec, s != nil, e)
		}
	}
}

// TestTornLog: what is torn is no record, so it can not be a wrong one.
func TestTornLog(t *testing.T) {
	whole := framed(laid("a", 1, "x")) + framed(laid("a", 2, "y"))
	first := len(framed(laid("a", 1, "x")))
	for n := range len(whole) + 1 {
		d := disk.New()
		d.Append("kv/s00000001", []byte(whole[:n]))
		s := opened(t, d)
		version := uint64(0)
		if n >= first {
			version++
		}
		if n == len(whole) {
			version++
		}
		tells(t, "P12.1", s, "a", []string{"", "x", "y"}[version], version)
		sets(t, s, "a", "new", version)
		tells(t, "P12.5", opened(t, d), "a", "new", version+1)
	}
}

func TestOpenTellsTheLogsError(t *testing.T) {
	for _, on := range []func(d *disk.Disk){
		func(d *disk.Disk) { d.Off(99) },
		func(d *disk.Disk) { d.Append("kv/new", nil); d.Arm(0, 0) },
		func(d *disk.Disk) { d.Append("kv/s00000001", []byte("torn")); d.Arm(2, 99) },
	} {
		d := logged(laid("a", 1, "x"), "a record that says nothing")
		on(d)
		if s, e := Open(d); s != nil || e != api.ErrDiskOff {
			t.Errorf("P12.1: %v, %d", s != nil, e)
		}
	}
	d := logged(laid("a", 1, "x"))
	d.Append("kv/s00000001", []byte("torn"))
	for i := range api.MaxFiles - 1 {
		d.Append(fmt.Sprint("f", i), nil)
	}
	if s, e := Open(d); s != nil || e != api.ErrDiskFull {
		t.Errorf("P12.1: %v, %d", s != nil, e)
	}
}

func TestFilesUnderOtherNames(t *testing.T) {
	d := disk.New()
	for _, name := range []string{"kv", "kv/", "kv/s1", "kv/s000000001", "kv/s00000000", "kvs/s00000001", "w/s00000001", "kv/x", "/kv/s00000001"} {
		d.Append(name, []byte(framed("says nothing")))
	}
	before, writes := peek.Files(d), d.Writes()
	s := opened(t, d)
	if got := s.Keys(""); len(got) != 0 || d.Writes() != writes {
		t.Errorf("P12.1: %q, %d writes", got, d.Writes()-writes)
	}
	sets(t, s, "a", "x", 0)
	for _, f := range before {
		if b, _ := d.Read(f.Name); !bytes.Equal(b, f.Data) {
			t.Errorf("P12.3: %q has changed", f.Name)
		}
	}
}

func TestKeys(t *testing.T) {
	x := newTwin(t, disk.New())
	for i, key := range []string{"b", "a", "ab", "a/b", "A b", "a\x00", "\xff", "\x00", "é", "a/", "ring"} {
		x.set(key, key, 0)
		if i%2 == 0 {
			x.set(key, "", 1)
		}
		x.get("never set " + key)
		x.set("never set "+key, "x", 1)
	}
	for prefix, want := range map[string]string{
		"": "[\x00 A b a a\x00 a/ a/b ab b ring é \xff]", "a": "[a a\x00 a/ a/b ab]", "a/": "[a/ a/b]", "a/b": "[a/b]", "a/b/": "[]",
		"A": "[A b]", "\xff": "[\xff]", "\xff\xff": "[]", "\xc3": "[é]", "z": "[]", "never": "[]", strings.Repeat("a", 100): "[]",
	} {
		x.keys(prefix)
		if got := fmt.Sprint(x.s.Keys(prefix)); got != want {
			t.Errorf("P12.4: Keys(%q): %q; want %q", prefix, got, want)
		}
		if got := fmt.Sprint(opened(t, x.Own).Keys(prefix)); got != want {
			t.Errorf("P12.1: Keys(%q): %q; want %q", prefix, got, want)
		}
	}
	x.both("off", func(d *disk.Disk) { d.Off(0) })
	x.keys("")
	x.keys("a")
	x.both("on", (*disk.Disk).On)
	x.keys("")
}

// filled has a store whose log has that many segments, each of one record of a register of its own.
func filled(t *testing.T, segments int) (*disk.Disk, *Store) {
	t.Helper()
	d := disk.New()
	s := opened(t, d)
	for i := range segments {
		sets(t, s, fmt.Sprint("k", (i*37)%101), strings.Repeat("v", 4096), 0)
	}
	if n := len(d.List("kv/s")); n != segments {
		t.Fatalf("%d segments, not %d", n, segments)
	}
	return d, s
}

// TestCut: behind the change that makes a segment more than 64 the log is one checkpoint of all registers, by key.
func TestCut(t *testing.T) {
	d, s := filled(t, 64)
	if s.Segments() != 64 || len(d.List("kv/c")) != 0 {
		t.Fatalf("P12: cut too early: %q", d.List(""))
	}
	vals := map[string]value{"a": {1, "last"}}
	for _, key := range s.Keys("k") {
		vals[key] = value{1, strings.Repeat("v", 4096)}
	}
	sets(t, s, "a", "last", 0)
	keys := []string{}
	for key := range vals {
		keys = append(keys, key)
	}
	slices.Sort(keys)
	want := ""
	for _, key := range keys {
		want += framed(laid(key, vals[key].version, vals[key].data))
	}
	files := peek.Files(d)
	if len(files) != 1 || files[0].Name != "kv/c00000065" || string(files[0].Data) != want || len(keys) != 65 {
		t.Fatalf("P12: %q", d.List(""))
	}
	if s.Segments() != 0 || !peek.Same(peek.Safe(d), files) {
		t.Errorf("P12: %d segments; safe %.100q", s.Segments(), peek.Safe(d))
	}
	sets(t, s, "a", "behind", 1)
	vals["a"] = value{2, "behind"}
	if got := d.List(""); fmt.Sprint(got) != "[kv/c00000065 kv/s00000066]" {
		t.Errorf("P12: %q", got)
	}
	for _, s := range []*Store{s, opened(t, d)} {
		for key, v := range vals {
			tells(t, "P12.5", s, key, v.data, v.version)
		}
		if !slices.Equal(s.Keys(""), keys) {
			t.Errorf("P12.4: %q", s.Keys(""))
		}
	}
}

// TestCutKeepsTheLastChange of each register only.
func TestCutKeepsTheLastChange(t *testing.T) {
	d := disk.New()
	s := opened(t, d)
	sets(t, s, "small", "v", 0)
	for i := range uint64(1000) {
		sets(t, s, "big", strings.Repeat("b", 4090)+fmt.Sprint(i), i)
		if n := len(d.List("kv/s")); n > 64 {
			t.Fatalf("P12: %d segments", n)
		}
	}
	if c := d.List("kv/c"); len(c) != 1 {
		t.Fatalf("P12: %q", d.List(""))
	}
	b, _ := d.Read(d.List("kv/c")[0])
	if len(b) > 5000 {
		t.Errorf("P12: the checkpoint has %d bytes", len(b))
	}
	s = opened(t, d)
	tells(t, "P12.5", s, "big", strings.Repeat("b", 4090)+"999", 1000)
	tells(t, "P12.5", s, "small", "v", 1)
}

// TestOpenDoesNotCut: that is done behind a change alone.
func TestOpenDoesNotCut(t *testing.T) {
	d := disk.New()
	for i := range 70 {
		d.Append(fmt.Sprintf("kv/s%08d", i+1), []byte(framed(laid("k", uint64(i+1), fmt.Sprint(i)))))
	}
	x := newTwin(t, d)
	x.ask("k")
	x.set("k", "refused", 69)
	x.set("k", strings.Repeat("x", 65536), 70)
	if x.Own.Writes() != 70 || x.s.Segments() != 70 {
		t.Errorf("P12: %d writes, %d segments", x.Own.Writes(), x.s.Segments())
	}
	x.set("k", "new", 70)
	if got := x.Own.List(""); fmt.Sprint(got) != "[kv/c00000070]" {
		t.Errorf("P12: %q", got)
	}
	x.open()
	x.ask("k")
}
