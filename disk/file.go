package disk

import (
	"slices"

	"tidewrack/api"
	"tidewrack/names"
)

// file: the first synced of its bytes stay when the power goes.
type file struct {
	bytes  []byte
	synced int
}

// lose is what the power's going does to a file: what stays of it is safe from then on.
func (f *file) lose(keep int) {
	loose := len(f.bytes) - f.synced
	f.synced += max(keep, 0) % (loose + 1)
	f.bytes = f.bytes[:f.synced]
}

func (f *file) clone() *file {
	return &file{bytes: slices.Clone(f.bytes), synced: f.synced}
}

// reach tells why no file of these names can be come to, be it there or not.
func (d *Disk) reach(files ...string) api.Errno {
	if d.off {
		return api.ErrDiskOff
	}
	for _, name := range files {
		if !names.OfFile(name) {
			return api.ErrDiskName
		}
	}
	return api.OK
}

func (d *Disk) find(name string) (*file, api.Errno) {
	if e := d.reach(name); e != api.OK {
		return nil, e
	}
	f := d.files[name]
	if f == nil {
		return nil, api.ErrDiskNone
	}
	return f, api.OK
}

// hasRoom: may the file of that name get so many bytes more?
func (d *Disk) hasRoom(name string, more int) bool {
	f := d.files[name]
	if f == nil {
		return len(d.files) < api.MaxFiles && more <= api.MaxFile
	}
	return more <= api.MaxFile-len(f.bytes)
}
