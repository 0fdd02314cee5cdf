package obj

import (
	"encoding/binary"
	"fmt"
	"hash/crc32"
	"slices"
	"strings"
	"testing"

	"tidewrack/api"
	"tidewrack/disk"
	"tidewrack/peek"
)

// frameOf is the frame of a short record, by the library's sum.
func frameOf(rec string) string {
	return string(binary.BigEndian.AppendUint32([]byte{byte(len(rec))}, crc32.ChecksumIEEE([]byte(rec)))) + rec
}

// laid is an object's file, by the library's numbers.
func laid(gen uint64, data string) string {
	return frameOf(string(binary.AppendUvarint(nil, gen))) + data
}

// standing is the object of a file: there is one, if laid would have laid just these bytes.
func standing(file string) (uint64, string, bool) {
	if len(file) < 6 {
		return 0, "", false
	}
	gen, size := binary.Uvarint([]byte(file[5:]))
	if size < 1 || gen == 0 {
		return 0, "", false
	}
	data := file[5+size:]
	return gen, data, laid(gen, data) == file && len(data) <= 1<<20
}

func keyed(s string) bool {
	return len(s) >= 1 && len(s) <= 56 && s[:min(2, len(s))] != "o/" && s[:min(2, len(s))] != "t/" &&
		strings.Trim(s, "abcdefghijklmnopqrstuvwxyz0123456789/.-") == ""
}

// model does by hand, on a disk of its own, what the chapter's words ask of a store.
type model struct{ d *disk.Disk }

func (m model) on() bool { return m.d.Up() }

// there is what stands in the place of a key on a disk that is on.
func (m model) there(key string) (uint64, string) {
	b, _ := m.d.Read("o/" + key)
	gen, data, ok := standing(string(b))
	if !ok {
		return 0, ""
	}
	return gen, data
}

func (m model) put(key, data string, asks bool, gen uint64) (uint64, api.Errno) {
	switch {
	case !keyed(key):
		return 0, api.ErrObjName
	case len(data) > 1<<20:
		return 0, api.ErrObjSize
	case !m.on():
		return 0, api.ErrDiskOff
	}
	stood, _ := m.there(key)
	if asks && stood != gen {
		return stood, api.ErrObjGen
	}
	if slices.Contains(m.d.List(""), "t/"+key) {
		if e := m.d.Delete("t/" + key); e != api.OK {
			return 0, e
		}
	}
	if e := m.d.Append("t/"+key, []byte(laid(stood+1, data))); e != api.OK {
		return 0, e
	}
	if e := m.d.Sync("t/" + key); e != api.OK {
		return 0, e
	}
	if e := m.d.Rename("t/"+key, "o/"+key); e != api.OK {
		return 0, e
	}
	return stood + 1, api.OK
}

func (m model) get(key string) (string, uint64, api.Errno) {
	if !keyed(key) {
		return "", 0, api.ErrObjName
	}
	if !m.on() {
		return "", 0, api.ErrDiskOff
	}
	gen, data := m.there(key)
	if gen == 0 {
		return "", 0, api.ErrObjNone
	}
	return data, gen, api.OK
}

func (m model) slice(key string, from, to int) (string, api.Errno) {
	data, _, e := m.get(key)
	if e != api.OK {
		return "", e
	}
	if !(0 <= from && from <= to && to <= len(data)) {
		return "", api.ErrObjSize
	}
	return data[from:to], api.OK
}

func (m model) remove(key string) api.Errno {
	if _, _, e := m.get(key); e != api.OK {
		return e
	}
	return m.d.Delete("o/" + key)
}

func (m model) list(prefix string) []string {
	var keys []string
	for _, name := range m.d.List("") {
		key, ok := strings.CutPrefix(name, "o/")
		if !ok || !strings.HasPrefix(key, prefix) {
			continue
		}
		if _, _, e := m.get(key); e == api.OK {
			keys = append(keys, key)
		}
	}
	slices.Sort(keys)
	return keys
}

func (m model) open() api.Errno {
	if !m.on() {
		return api.ErrDiskOff
	}
	for _, name := range m.d.List("") {
		if !strings.HasPrefix(name, "t/") {
			continue
		}
		if e := m.d.Delete(name); e != api.OK {
			return e
		}
	}
	return api.OK
}

// twin is a store and the model, each over one of two disks that are just alike; each call is done on both.
type twin struct {
	*peek.Twins
	t *testing.T
	s *Store
	m model
}

// shutTwin has a disk and a clone of it for the model, nothing opened yet.
func shutTwin(t *testing.T, d *disk.Disk) *twin {
	x := &twin{t: t, Twins: peek.NewTwins(d)}
	x.m.d = x.Hand
	return x
}

// newTwin has a store on the disk and the model on a clone of it.
func newTwin(t *testing.T, d *disk.Disk) *twin {
	t.Helper()
	x := shutTwin(t, d)
	if e := x.open(); e != api.OK {
		t.Fatalf("P11.1: %d", e)
	}
	return x
}

// same: did the two answer alike, and do their disks stand alike?
func (x *twin) same(promise, call string, got, want any) {
	x.t.Helper()
	if how := x.Differ(call, fmt.Sprint(got), fmt.Sprint(want)); how != "" {
		x.t.Fatalf("%s: %s", promise, how)
	}
}

func (x *twin) open() api.Errno {
	x.t.Helper()
	s, e := Open(x.Own)
	if (s == nil) != (e != api.OK) {
		x.t.Fatalf("P11.1: a store %v beside %d", s != nil, e)
	}
	if e == api.OK {
		x.s = s
	}
	x.same("P11.1", "open", e, x.m.open())
	return e
}

func (x *twin) put(key, data string) api.Errno {
	x.t.Helper()
	gen, e := x.s.Put(key, []byte(data))
	want, f := x.m.put(key, data, false, 0)
	x.same("P11.2", fmt.Sprintf("put(%.20q, %.10q)", key, data), []any{gen, e}, []any{want, f})
	return e
}

func (x *twin) putIf(key, data string, gen uint64) api.Errno {
	x.t.Helper()
	got, e := x.s.PutIf(key, []byte(data), gen)
	want, f := x.m.put(key, data, true, gen)
	x.same("P11.2", fmt.Sprintf("putif(%.20q, %.10q, %d)", key, data, gen), []any{got, e}, []any{want, f})
	return e
}

func (x *twin) get(key string) {
	x.t.Helper()
	b, gen, e := x.s.Get(key)
	data, want, f := x.m.get(key)
	x.same("P11.3", fmt.Sprintf("get(%.20q)", key), []any{string(b), gen, e}, []any{data, want, f})
}

func (x *twin) slice(key string, from, to int) {
	x.t.Helper()
	b, e := x.s.Slice(key, from, to)
	data, f := x.m.slice(key, from, to)
	x.same("P11.3", fmt.Sprintf("slice(%.20q, %d, %d)", key, from, to), []any{string(b), e}, []any{data, f})
}

func (x *twin) remove(key string) api.Errno {
	x.t.Helper()
	e := x.s.Delete(key)
	x.same("P11.3", fmt.Sprintf("delete(%.20q)", key), e, x.m.remove(key))
	return e
}

func (x *twin) list(prefix string) {
	x.t.Helper()
	got := x.s.List(prefix)
	x.same("P11.3", fmt.Sprintf("list(%.20q)", prefix), fmt.Sprintf("%q", got), fmt.Sprintf("%q", x.m.list(prefix)))
}

// ask looks at all that the store tells of these keys.
func (x *twin) ask(keys ...string) {
	x.t.Helper()
	for _, key := range keys {
		x.get(key)
		x.slice(key, 0, 1)
	}
	x.list("")
}

// both does to the two disks what is no call of the store.
func (x *twin) both(call string, do func(d *disk.Disk)) {
	x.t.Helper()
	x.Both(do)
	x.same("P11.4", call, nil, nil)
}
