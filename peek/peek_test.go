package peek

import (
	"fmt"
	"testing"

	"tidewrack/disk"
)

// written has a disk with a file of two synced bytes and one more, and another one.
func written() *disk.Disk {
	d := disk.New()
	d.Append("b", []byte("uv"))
	d.Sync("b")
	d.Append("b", []byte("w"))
	d.Append("a", []byte("x"))
	return d
}

func TestFilesAndSafe(t *testing.T) {
	for _, off := range []bool{false, true} {
		d, files := written(), "[{a x} {b uvw}]"
		if off {
			d.Off(-1)
			files = "[{a } {b uv}]"
		}
		for range 2 {
			if got := fmt.Sprintf("%s", Files(d)); got != files {
				t.Errorf("%s; want %s", got, files)
			}
			if got := fmt.Sprintf("%s", Safe(d)); got != "[{a } {b uv}]" {
				t.Errorf("%s", got)
			}
		}
		if d.Up() == off || d.Writes() != 4 {
			t.Errorf("the disk has changed: %v, %d", d.Up(), d.Writes())
		}
	}
}

func TestAlike(t *testing.T) {
	for n, change := range []func(d *disk.Disk){
		func(d *disk.Disk) {},
		func(d *disk.Disk) { d.Off(9) },
		func(d *disk.Disk) { d.Append("a", nil) },
		func(d *disk.Disk) { d.Sync("a") },
		func(d *disk.Disk) { d.Append("a", []byte("y")) },
		func(d *disk.Disk) { d.Off(0); d.On() },
		func(d *disk.Disk) { d.Delete("a") },
		func(d *disk.Disk) { d.Rename("a", "c") },
	} {
		d := written()
		change(d)
		if Alike(d, written()) != (n == 0) || Alike(written(), d) != (n == 0) || !Alike(d, d.Clone()) {
			t.Errorf("change %d", n)
		}
	}
}

// TestAlikeInAllButOne: disks that differ in just one of the things that are asked.
func TestAlikeInAllButOne(t *testing.T) {
	made := func(do ...func(d *disk.Disk)) *disk.Disk {
		d := disk.New()
		for _, f := range do {
			f(d)
		}
		return d
	}
	add := func(name, data string) func(d *disk.Disk) {
		return func(d *disk.Disk) { d.Append(name, []byte(data)) }
	}
	sync := func(name string) func(d *disk.Disk) {
		return func(d *disk.Disk) { d.Sync(name) }
	}
	for what, two := range map[string][2]*disk.Disk{
		"power":  {made(), made(func(d *disk.Disk) { d.Off(0) })},
		"writes": {made(add("a", "x")), made(add("a", "x"), add("a", ""))},
		"name":   {made(add("a", "x")), made(add("b", "x"))},
		"bytes":  {made(add("a", "x")), made(add("a", "y"))},
		"synced": {made(add("a", "x"), sync("a")), made(add("a", "x"), add("a", ""))},
	} {
		if Alike(two[0], two[1]) || Alike(two[1], two[0]) {
			t.Errorf("%s: %q, safe %q; %q, safe %q", what, Files(two[0]), Safe(two[0]), Files(two[1]), Safe(two[1]))
		}
	}
}
