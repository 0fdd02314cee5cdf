// Package peek looks at disks without changing them, be they on or off: what the tests of the layers over disks share.
package peek

import (
	"bytes"
	"slices"

	"tidewrack/api"
	"tidewrack/disk"
)

// Files are the disk's, by name.
func Files(d *disk.Disk) []api.File {
	d = d.Clone()
	d.On()
	var files []api.File
	for _, name := range d.List("") {
		data, _ := d.Read(name)
		files = append(files, api.File{Name: name, Data: data})
	}
	return files
}

// Safe is what stays of the files if the power goes and keeps nothing.
func Safe(d *disk.Disk) []api.File {
	d = d.Clone()
	d.Off(-1)
	return Files(d)
}

// Alike asks whether two disks stand alike: the power, the writes done, the files and what is safe of them.
func Alike(a *disk.Disk, b *disk.Disk) bool {
	return a.Up() == b.Up() && a.Writes() == b.Writes() && Same(Files(a), Files(b)) && Same(Safe(a), Safe(b))
}

// Same asks whether two lists have the same files in the same order.
func Same(a []api.File, b []api.File) bool {
	return slices.EqualFunc(a, b, func(x, y api.File) bool {
		return x.Name == y.Name && bytes.Equal(x.Data, y.Data)
	})
}
