package kv

import (
	"encoding/binary"
	"fmt"
	"slices"
	"strings"
	"testing"

	"tidewrack/api"
	"tidewrack/disk"
	"tidewrack/peek"
	"tidewrack/wal"
)

// text is a text's bytes, by the library's numbers.
func text(s string) string {
	return string(binary.AppendUvarint(nil, uint64(len(s)))) + s
}

// laid is a change's record, by the library's numbers.
func laid(key string, version uint64, data string) string {
	return text(key) + string(binary.AppendUvarint(nil, version)) + text(data)
}

type value struct {
	version uint64
	data    string
}

// saying is what a record says: it is something, if laid would have laid just these bytes.
func saying(rec string) (string, value, bool) {
	size, a := binary.Uvarint([]byte(rec))
	if a < 1 || size < 1 || size > 64 || len(rec) < a+int(size) {
		return "", value{}, false
	}
	key, rest := rec[a:a+int(size)], rec[a+int(size):]
	version, b := binary.Uvarint([]byte(rest))
	if b < 1 || version == 0 {
		return "", value{}, false
	}
	_, c := binary.Uvarint([]byte(rest[b:]))
	if c < 1 {
		return "", value{}, false
	}
	data := rest[b+c:]
	return key, value{version, data}, laid(key, version, data) == rec
}

// model does by hand, on a disk and a log of its own, what the chapter's words ask of a store.
type model struct {
	d    *disk.Disk
	w    *wal.Wal
	vals map[string]value
	stop bool // a write has failed: what stands there is told by opening anew
}

func (m *model) open() api.Errno {
	w, recs, e := wal.Open(m.d, "kv")
	if e != api.OK {
		return e
	}
	vals := map[string]value{}
	for _, rec := range recs {
		key, v, ok := saying(string(rec))
		if !ok {
			return api.ErrWalForm
		}
		vals[key] = v
	}
	m.w, m.vals, m.stop = w, vals, false
	return api.OK
}

func (m *model) get(key string) (string, uint64, api.Errno) {
	if len(key) < 1 || len(key) > 64 {
		return "", 0, api.ErrKvName
	}
	if !m.d.Up() {
		return "", 0, api.ErrDiskOff
	}
	if m.stop {
		if e := m.open(); e != api.OK {
			return "", 0, e
		}
	}
	return m.vals[key].data, m.vals[key].version, api.OK
}

func (m *model) set(key, data string, version uint64) (uint64, api.Errno) {
	_, stands, e := m.get(key)
	if e != api.OK {
		return 0, e
	}
	if stands != version {
		return stands, api.ErrKvVersion
	}
	rec := laid(key, version+1, data)
	if len(rec) > 65536 {
		return 0, api.ErrWalLong
	}
	if e := m.write(rec); e != api.OK {
		m.stop = true
		return 0, e
	}
	m.vals[key] = value{version + 1, data}
	if len(m.d.List("kv/s")) <= 64 {
		return version + 1, api.OK
	}
	var keep [][]byte
	for _, k := range m.keys("") {
		keep = append(keep, []byte(laid(k, m.vals[k].version, m.vals[k].data)))
	}
	if e := m.w.Cut(keep); e != api.OK {
		m.stop = true
		return 0, e
	}
	return version + 1, api.OK
}

func (m *model) write(rec string) api.Errno {
	if e := m.w.Append([]byte(rec)); e != api.OK {
		return e
	}
	return m.w.Sync()
}

func (m *model) keys(prefix string) []string {
	if _, _, e := m.get("any"); e != api.OK {
		return nil
	}
	var keys []string
	for key := range m.vals {
		if strings.HasPrefix(key, prefix) {
			keys = append(keys, key)
		}
	}
	slices.Sort(keys)
	return keys
}

// twin is a store and the model, each over one of two disks that are just alike; each call is done on both.
type twin struct {
	*peek.Twins
	t *testing.T
	s *Store
	m model
}

// shutTwin has a disk and a clone of it for the model, nothing opened yet.
func shutTwin(t *testing.T, d *disk.Disk) *twin {
	x := &twin{t: t, Twins: peek.NewTwins(d)}
	x.m.d = x.Hand
	return x
}

// newTwin has a store on the disk and the model on a clone of it.
func newTwin(t *testing.T, d *disk.Disk) *twin {
	t.Helper()
	x := shutTwin(t, d)
	if e := x.open(); e != api.OK {
		t.Fatalf("P12.1: %d", e)
	}
	return x
}

// same: did the two answer alike, and do their disks stand alike?
func (x *twin) same(promise, call string, got, want any) {
	x.t.Helper()
	if how := x.Differ(call, fmt.Sprint(got), fmt.Sprint(want)); how != "" {
		x.t.Fatalf("%s: %s", promise, how)
	}
}

func (x *twin) open() api.Errno {
	x.t.Helper()
	s, e := Open(x.Own)
	if (s == nil) != (e != api.OK) {
		x.t.Fatalf("P12.1: a store %v beside %d", s != nil, e)
	}
	if e == api.OK {
		x.s = s
	}
	x.same("P12.1", "open", e, x.m.open())
	return e
}

func (x *twin) set(key, data string, version uint64) api.Errno {
	x.t.Helper()
	got, e := x.s.Set(key, []byte(data), version)
	want, f := x.m.set(key, data, version)
	x.same("P12.3", fmt.Sprintf("set(%.20q, %.10q, %d)", key, data, version), []any{got, e}, []any{want, f})
	return e
}

func (x *twin) get(key string) {
	x.t.Helper()
	b, got, e := x.s.Get(key)
	data, want, f := x.m.get(key)
	x.same("P12.2", fmt.Sprintf("get(%.20q)", key), []any{string(b), got, e}, []any{data, want, f})
}

func (x *twin) keys(prefix string) {
	x.t.Helper()
	got := x.s.Keys(prefix)
	x.same("P12.4", fmt.Sprintf("keys(%.20q)", prefix), fmt.Sprintf("%q", got), fmt.Sprintf("%q", x.m.keys(prefix)))
}

// ask looks at all that the store tells of these keys.
func (x *twin) ask(keys ...string) {
	x.t.Helper()
	for _, key := range keys {
		x.get(key)
	}
	x.keys("")
}

// both does to the two disks what is no call of the store.
func (x *twin) both(call string, do func(d *disk.Disk)) {
	x.t.Helper()
	x.Both(do)
	x.same("P12.5", call, nil, nil)
}
