package obj

import (
	"bytes"
	"fmt"
	"strings"
	"testing"
	"time"

	"tidewrack/api"
	"tidewrack/disk"
)

func TestDataIsNeitherChangedNorKept(t *testing.T) {
	for _, put := range []func(s *Store, data []byte) (uint64, api.Errno){
		func(s *Store, data []byte) (uint64, api.Errno) { return s.Put("k", data) },
		func(s *Store, data []byte) (uint64, api.Errno) { return s.PutIf("k", data, 0) },
	} {
		s := opened(t, disk.New())
		room := []byte("abcdefgh")
		if gen, e := put(s, room[:3]); gen != 1 || e != api.OK {
			t.Errorf("P11.2: %d, %d", gen, e)
		}
		if string(room) != "abcdefgh" {
			t.Errorf("R3: what was handed in, or its spare room, was changed: %q", room)
		}
		copy(room, "ZZZZZZZZ")
		tells(t, "R3", s, "k", "abc", 1)
	}
}

func TestAnswersShareNothing(t *testing.T) {
	s := opened(t, disk.New())
	s.Put("k", []byte("abcdef"))
	s.Put("l", []byte("ghi"))
	spoil := func(b []byte) {
		for i := range b[:cap(b)] {
			b[:cap(b)][i] = '#'
		}
	}
	one, _, _ := s.Get("k")
	two, _, _ := s.Get("k")
	part, _ := s.Slice("k", 1, 3)
	other, _ := s.Slice("k", 1, 3)
	spoil(one)
	spoil(part)
	if string(two) != "abcdef" || string(other) != "bc" {
		t.Errorf("R3: answers share memory: %q, %q", two, other)
	}
	tells(t, "R3", s, "k", "abcdef", 1)
	tells(t, "R3", s, "l", "ghi", 1)
	keys := s.List("")
	keys[0] = "changed"
	_ = append(keys[:1], "more")
	if again := s.List(""); strings.Join(again, " ") != "k l" {
		t.Errorf("R3: %q", again)
	}
}

func TestNothingBehindTheLength(t *testing.T) {
	s := opened(t, disk.New())
	s.Put("k", []byte(strings.Repeat("x", 100)))
	for n := range 101 {
		b, e := s.Slice("k", 0, n)
		if e != api.OK || bytes.IndexByte(b[:cap(b)][n:], 'x') >= 0 {
			t.Errorf("R3: %d bytes: %q", n, b[:cap(b)])
		}
	}
	b, _, _ := s.Get("k")
	if bytes.IndexByte(b[:cap(b)][100:], 'x') >= 0 {
		t.Errorf("R3: %q", b[:cap(b)])
	}
	s.Put("none", nil)
	s.Put("empty", []byte{})
	none, _, e := s.Get("none")
	empty, _, f := s.Get("empty")
	if len(none) != 0 || len(empty) != 0 || e != api.OK || f != api.OK {
		t.Errorf("R2: nil and empty are one: %q, %d, %q, %d", none, e, empty, f)
	}
}

// TestFullDisk: P11.2 and P11.4 on a disk that has no room for one more file.
func TestFullDisk(t *testing.T) {
	d := disk.New()
	s := opened(t, d)
	s.Put("k", []byte("old"))
	s.Put("l", []byte("other"))
	for i := range api.MaxFiles - 2 {
		if e := d.Append(fmt.Sprint("f", i), nil); e != api.OK {
			t.Fatalf("file %d: %d", i, e)
		}
	}
	writes := d.Writes()
	for _, key := range []string{"k", "new"} {
		if gen, e := s.Put(key, []byte("new")); gen != 0 || e != api.ErrDiskFull {
			t.Errorf("P11.2: %q: %d, %d", key, gen, e)
		}
		if gen, e := s.PutIf(key, []byte("new"), 7); e != api.ErrObjGen {
			t.Errorf("P11.2: %q: the generation is told first: %d, %d", key, gen, e)
		}
	}
	if d.Writes() != writes || len(d.List("t/")) != 0 || strings.Join(s.List(""), " ") != "k l" {
		t.Errorf("R2: %d writes, %q, %q", d.Writes()-writes, d.List("t/"), s.List(""))
	}
	tells(t, "P11.4", s, "k", "old", 1)
	if e := s.Delete("l"); e != api.OK {
		t.Errorf("P11.3: %d", e)
	}
	d.Append("t/k", []byte("an earlier draft"))
	if gen, e := s.Put("k", []byte("new")); gen != 2 || e != api.OK {
		t.Errorf("P11.2: the earlier draft's room is used: %d, %d", gen, e)
	}
	tells(t, "P11.2", s, "k", "new", 2)
}

// within fails if what is done takes longer than its size explains.
func within(t *testing.T, most time.Duration, do func()) {
	t.Helper()
	begun := time.Now()
	do()
	if took := time.Since(begun); took > most {
		t.Errorf("R1: %v, above %v", took, most)
	}
}

func TestManyObjects(t *testing.T) {
	const many = 100000
	d := disk.New()
	within(t, 20*time.Second, func() {
		s := opened(t, d)
		for i := range many {
			if gen, e := s.Put(fmt.Sprint("k/", i), []byte{byte(i)}); gen != 1 || e != api.OK {
				t.Fatalf("P11.2: %d, %d", gen, e)
			}
		}
		if n := len(opened(t, d).List("")); n != many {
			t.Errorf("P11.3: %d keys", n)
		}
		for i := range many {
			if e := s.Delete(fmt.Sprint("k/", i)); e != api.OK {
				t.Fatalf("P11.3: %d", e)
			}
		}
	})
}

func TestGreatObjects(t *testing.T) {
	const many = 256
	d := disk.New()
	data := bytes.Repeat([]byte("wrack"), api.MaxObject/5+1)[:api.MaxObject]
	within(t, 20*time.Second, func() {
		s := opened(t, d)
		for i := range 2 * many {
			data[0] = byte(i)
			if gen, e := s.Put(fmt.Sprint("k/", i%many), data); gen != uint64(1+i/many) || e != api.OK {
				t.Fatalf("P11.2: %d, %d", gen, e)
			}
		}
		if n := len(s.List("k/")); n != many {
			t.Errorf("P11.3: %d keys", n)
		}
		for i := range many {
			b, gen, e := s.Get(fmt.Sprint("k/", i))
			if data[0] = byte(i); !bytes.Equal(b, data) || gen != 2 || e != api.OK {
				t.Fatalf("P11.3: %d bytes, %d, %d", len(b), gen, e)
			}
		}
	})
}

func TestManyDrafts(t *testing.T) {
	d := disk.New()
	for i := range 100000 {
		d.Append(fmt.Sprint("t/", i), []byte("draft"))
	}
	within(t, 20*time.Second, func() { opened(t, d) })
	if left := d.List(""); len(left) != 0 {
		t.Errorf("P11.1: %d files are left", len(left))
	}
}
