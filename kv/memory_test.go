package kv

import (
	"bytes"
	"fmt"
	"strings"
	"testing"
	"time"

	"tidewrack/api"
	"tidewrack/disk"
)

func TestDataIsNeitherChangedNorKept(t *testing.T) {
	d := disk.New()
	s := opened(t, d)
	room := []byte("abcdefgh")
	if v, e := s.Set("k", room[:3], 0); v != 1 || e != api.OK {
		t.Errorf("P12.3: %d, %d", v, e)
	}
	if string(room) != "abcdefgh" {
		t.Errorf("R3: what was handed in, or its spare room, was changed: %q", room)
	}
	copy(room, "ZZZZZZZZ")
	tells(t, "R3", s, "k", "abc", 1)
	tells(t, "R3", opened(t, d), "k", "abc", 1)
}

func TestAnswersShareNothing(t *testing.T) {
	s := opened(t, disk.New())
	data := strings.Repeat("x", 100)
	sets(t, s, "k", data, 0)
	sets(t, s, "l", "ghi", 0)
	one, _, _ := s.Get("k")
	two, _, _ := s.Get("k")
	if bytes.IndexByte(one[:cap(one)][len(one):], 'x') >= 0 {
		t.Errorf("R3: behind the length: %q", one[:cap(one)])
	}
	for i := range one[:cap(one)] {
		one[:cap(one)][i] = '#'
	}
	if string(two) != data {
		t.Errorf("R3: answers share memory: %q", two)
	}
	tells(t, "R3", s, "k", data, 1)
	tells(t, "R3", s, "l", "ghi", 1)
	keys := s.Keys("")
	for _, more := range s.Keys("k")[:cap(s.Keys("k"))][1:] {
		if more != "" {
			t.Errorf("R3: behind the length: %q", more)
		}
	}
	keys[0] = "changed"
	_ = append(keys[:1], "more")
	if again := s.Keys(""); strings.Join(again, " ") != "k l" {
		t.Errorf("R3: %q", again)
	}
}

func TestNoBytes(t *testing.T) {
	d := disk.New()
	s := opened(t, d)
	for _, none := range [][]byte{nil, {}} {
		_, version, _ := s.Get("k")
		if v, e := s.Set("k", none, version); v != version+1 || e != api.OK {
			t.Errorf("R2: nil and empty are one: %d, %d", v, e)
		}
		tells(t, "P12.2", s, "k", "", version+1)
		tells(t, "P12.1", opened(t, d), "k", "", version+1)
	}
	if got := s.Keys("k"); len(got) != 1 {
		t.Errorf("P12.4: a register that was set to no bytes is one that was set: %q", got)
	}
}

// TestStoresByThemselves: one disk's registers are none of another one's.
func TestStoresByThemselves(t *testing.T) {
	d := disk.New()
	a, b := opened(t, d), opened(t, disk.New())
	sets(t, a, "k", "by a", 0)
	sets(t, a, "k", "by a", 1)
	sets(t, b, "k", "by b", 0)
	other := d.Clone()
	sets(t, a, "k", "later", 2)
	tells(t, "R4", a, "k", "later", 3)
	tells(t, "R4", b, "k", "by b", 1)
	tells(t, "R4", opened(t, other), "k", "by a", 2)
}

// fillUp leaves a disk no room for one more file.
func fillUp(t *testing.T, d *disk.Disk) {
	t.Helper()
	for i := 0; ; i++ {
		if e := d.Append(fmt.Sprint("f", i), nil); e != api.OK {
			return
		}
	}
}

// TestFullDisk: a Set for which there is no room has changed nothing; one for which there is holds, though the disk is full.
func TestFullDisk(t *testing.T) {
	d := disk.New()
	s := opened(t, d)
	big := strings.Repeat("x", 4096)
	sets(t, s, "k", "old", 0)
	fillUp(t, d)
	sets(t, s, "k", big, 1)
	writes := d.Writes()
	for range 3 {
		if v, e := s.Set("k", []byte("new"), 2); v != 0 || e != api.ErrDiskFull {
			t.Errorf("P12.3: %d, %d", v, e)
		}
		tells(t, "P12.5", s, "k", big, 2)
		if v, e := s.Set("k", []byte("new"), 1); v != 2 || e != api.ErrKvVersion {
			t.Errorf("P12.3: the version is told first: %d, %d", v, e)
		}
	}
	if n := d.Writes() - writes; n > 3 {
		t.Errorf("P12.3: %d writes", n)
	}
	d.Delete("f0")
	sets(t, s, "k", "new", 2)
	tells(t, "P12.5", opened(t, d), "k", "new", 3)
}

// TestNoRoomToCut: registers that are more than a file may have stay in their segments; the disk's error is told, what was changed stays.
func TestNoRoomToCut(t *testing.T) {
	d := disk.New()
	s := opened(t, d)
	data := strings.Repeat("x", 65500)
	for i := range 64 {
		sets(t, s, fmt.Sprint("k", i), data, 0)
	}
	for i := range uint64(5) {
		if v, e := s.Set("more", []byte(data), i); v != 0 || e != api.ErrDiskFull {
			t.Fatalf("P12.3: %d, %d", v, e)
		}
		tells(t, "P12.5", s, "more", data, i+1)
		tells(t, "P12.5", opened(t, d), "more", data, i+1)
	}
	if len(d.List("kv/c")) != 0 || len(d.List("kv/s")) != 69 || len(opened(t, d).Keys("")) != 65 {
		t.Errorf("P12: %q", d.List(""))
	}
}

// within fails if what is done takes longer than its size explains.
func within(t *testing.T, most time.Duration, do func()) {
	t.Helper()
	begun := time.Now()
	do()
	if took := time.Since(begun); took > most {
		t.Errorf("R1: %v, above %v", took, most)
	}
}

func TestManyRegisters(t *testing.T) {
	const many = 50000
	d := disk.New()
	within(t, 20*time.Second, func() {
		s := opened(t, d)
		for v := range uint64(2) {
			for i := range many {
				sets(t, s, fmt.Sprint("k/", i), fmt.Sprint(i), v)
			}
		}
		s = opened(t, d)
		if n := len(s.Keys("k/")); n != many {
			t.Errorf("P12.4: %d keys", n)
		}
		for i := range many {
			tells(t, "P12.5", s, fmt.Sprint("k/", i), fmt.Sprint(i), 2)
		}
	})
}

func TestManyVersions(t *testing.T) {
	const many = 100000
	d := disk.New()
	within(t, 20*time.Second, func() {
		s := opened(t, d)
		for v := range uint64(many) {
			sets(t, s, "ring", "epoch", v)
		}
		tells(t, "P12.5", opened(t, d), "ring", "epoch", many)
	})
}
