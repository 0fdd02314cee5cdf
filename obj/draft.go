package obj

import (
	"tidewrack/api"
	"tidewrack/disk"
)

// draft is an object's file on its way: it gets its place once it is whole and synced.
type draft struct {
	disk  *disk.Disk
	key   string
	bytes []byte
}

func (w draft) name() string {
	return drafts + w.key
}

// clear deletes what a power cut has left of an earlier draft, if there is any.
func (w draft) clear() api.Errno {
	e := w.disk.Delete(w.name())
	if e == api.ErrDiskNone {
		return api.OK
	}
	return e
}

func (w draft) write() api.Errno {
	return w.disk.Append(w.name(), w.bytes)
}

func (w draft) sync() api.Errno {
	return w.disk.Sync(w.name())
}

func (w draft) place() api.Errno {
	return w.disk.Rename(w.name(), objects+w.key)
}

// inTurn does the writes up to the first error.
func inTurn(writes ...func() api.Errno) api.Errno {
	for _, write := range writes {
		if e := write(); e != api.OK {
			return e
		}
	}
	return api.OK
}

func deletions(d *disk.Disk) []func() api.Errno {
	var writes []func() api.Errno
	for _, name := range d.List(drafts) {
		writes = append(writes, draft{disk: d, key: name[len(drafts):]}.clear)
	}
	return writes
}

// replace puts the data in the place of the old object. Behind the last number there is none: generations begin anew then, at 1, as 0 is no object's.
func (s *Store) replace(key string, old object, data []byte) (uint64, api.Errno) {
	fresh := object{gen: max(old.gen+1, 1), data: data}
	w := draft{disk: s.disk, key: key, bytes: fresh.lay()}
	if e := inTurn(w.clear, w.write, w.sync, w.place); e != api.OK {
		return 0, e
	}
	return fresh.gen, api.OK
}
