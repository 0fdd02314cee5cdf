package peek

import (
	"fmt"
	"slices"
	"strings"
	"testing"

	"tidewrack/disk"
)

func TestTwins(t *testing.T) {
	d := written()
	x := NewTwins(d)
	if x.Own != d || x.Hand == d {
		t.Fatal("the layer's own disk is the one that was handed in, the other one is a clone")
	}
	x.Both(func(d *disk.Disk) { d.Append("c", []byte("y")) })
	if how := x.Differ("call", "1", "1"); how != "" {
		t.Errorf("alike: %s", how)
	}
	if how := x.Differ("next", "1", "2"); how != "call, next: 1; want 2" {
		t.Errorf("answers: %s", how)
	}
	d.Sync("c")
	how := x.Differ("sync", "1", "1")
	for _, part := range []string{"call, next, sync: ", "6 writes", "5 writes", `safe a "" b "uv" c "y"`, `safe a "" b "uv" c ""`} {
		if !strings.Contains(how, part) {
			t.Errorf("disks: no %q in %s", part, how)
		}
	}
}

func TestDifferIsShort(t *testing.T) {
	x := NewTwins(disk.New())
	for range 100 {
		x.Differ("call", "", "")
	}
	x.Own.Append("a", []byte(strings.Repeat("x", 10000)))
	for _, how := range []string{x.Differ("call", strings.Repeat("x", 10000), ""), x.Differ("call", "", "")} {
		if len(how) > 1000 || len(how) < 100 {
			t.Errorf("%d bytes", len(how))
		}
	}
}

func TestScripts(t *testing.T) {
	var got []string
	for script := range Scripts(3, 2) {
		got = append(got, fmt.Sprint(script))
	}
	slices.Sort(got)
	if want := "[0 0] [0 1] [0 2] [1 0] [1 1] [1 2] [2 0] [2 1] [2 2]"; strings.Join(got, " ") != want {
		t.Errorf("%q", got)
	}
	n := 0
	for range Scripts(5, 4) {
		n++
	}
	if n != 625 {
		t.Errorf("%d scripts", n)
	}
	for range Scripts(5, 4) {
		n++
		break
	}
	if n != 626 {
		t.Errorf("%d scripts behind a break", n)
	}
}
