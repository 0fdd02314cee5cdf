package disk

import (
	"fmt"
	"slices"
	"sort"
	"strings"
	"testing"

	"tidewrack/api"
)

// modelFile keeps what is synced and what is not apart, so that no count can hide an error.
type modelFile struct {
	name, safe, loose string
}

// model: the chapter's words, without a map and without a closure. Armed with writes below 0: not armed.
type model struct {
	files         []modelFile
	on            bool
	armed, keep   int
	writes        uint64
	maxFiles      int
	maxFile       int
	maxNameLength int
}

func newModel() *model {
	return &model{on: true, armed: -1, maxFiles: 1 << 20, maxFile: 1 << 22, maxNameLength: 64}
}

func (m *model) place(name string) int {
	return slices.IndexFunc(m.files, func(f modelFile) bool { return f.name == name })
}

func (m *model) named(name string) bool {
	return len(name) >= 1 && len(name) <= m.maxNameLength && strings.Trim(name, "abcdefghijklmnopqrstuvwxyz0123456789/.-") == ""
}

func (m *model) powerGoes(keep int) {
	for i, f := range m.files {
		stay := 0
		if keep > 0 {
			stay = int(uint64(keep) % uint64(len(f.loose)+1))
		}
		m.files[i].safe, m.files[i].loose = f.safe+f.loose[:stay], ""
	}
	m.on = false
}

// goes tells whether the power goes in this write, and counts it.
func (m *model) goes() bool {
	m.writes++
	if m.armed < 0 {
		return false
	}
	m.armed--
	return m.armed < 0
}

func (m *model) refused(must bool, names ...string) api.Errno {
	if !m.on {
		return api.ErrDiskOff
	}
	for _, n := range names {
		if !m.named(n) {
			return api.ErrDiskName
		}
	}
	if must && m.place(names[0]) < 0 {
		return api.ErrDiskNone
	}
	return api.OK
}

func (m *model) add(name, data string) api.Errno {
	if e := m.refused(false, name); e != api.OK {
		return e
	}
	at := m.place(name)
	if at < 0 && (len(m.files)+1 > m.maxFiles || len(data) > m.maxFile) {
		return api.ErrDiskFull
	}
	if at >= 0 && len(m.files[at].safe+m.files[at].loose+data) > m.maxFile {
		return api.ErrDiskFull
	}
	if at < 0 {
		at = len(m.files)
		m.files = append(m.files, modelFile{name: name})
	}
	m.files[at].loose += data
	if m.goes() {
		m.powerGoes(m.keep)
		return api.ErrDiskOff
	}
	return api.OK
}

// other is Sync, Rename or Delete: what is done, if the power does not go.
func (m *model) other(e api.Errno, do func()) api.Errno {
	if e != api.OK {
		return e
	}
	if m.goes() {
		m.powerGoes(m.keep)
		return api.ErrDiskOff
	}
	do()
	return api.OK
}

func (m *model) sync(name string) api.Errno {
	return m.other(m.refused(true, name), func() {
		f := &m.files[m.place(name)]
		f.safe, f.loose = f.safe+f.loose, ""
	})
}

func (m *model) rename(from, to string) api.Errno {
	return m.other(m.refused(true, from, to), func() {
		if from == to {
			return
		}
		m.drop(to)
		m.files[m.place(from)].name = to
	})
}

func (m *model) remove(name string) api.Errno {
	return m.other(m.refused(true, name), func() { m.drop(name) })
}

func (m *model) drop(name string) {
	m.files = slices.DeleteFunc(m.files, func(f modelFile) bool { return f.name == name })
}

func (m *model) read(name string) (string, api.Errno) {
	if e := m.refused(true, name); e != api.OK {
		return "", e
	}
	f := m.files[m.place(name)]
	return f.safe + f.loose, api.OK
}

func (m *model) list(prefix string) []string {
	var out []string
	for _, f := range m.files {
		if m.on && len(f.name) >= len(prefix) && f.name[:len(prefix)] == prefix {
			out = append(out, f.name)
		}
	}
	sort.Strings(out)
	return out
}

func (m *model) off(keep int) {
	if m.on {
		m.powerGoes(keep)
	}
	m.armed = -1
}

func (m *model) clone() *model {
	c := *m
	c.files = slices.Clone(m.files)
	return &c
}

// step: one call, on a disk and on a model; it tells what the two answered.
type step struct {
	kind       string
	name, more string
	n, keep    int
}

func (s step) String() string {
	return fmt.Sprintf("%s(%q,%q,%d,%d)", s.kind, s.name, s.more, s.n, s.keep)
}

func (s step) onDisk(d *Disk) api.Errno {
	switch s.kind {
	case "append":
		return d.Append(s.name, []byte(s.more))
	case "sync":
		return d.Sync(s.name)
	case "rename":
		return d.Rename(s.name, s.more)
	case "delete":
		return d.Delete(s.name)
	case "arm":
		d.Arm(s.n, s.keep)
	case "off":
		d.Off(s.keep)
	case "on":
		d.On()
	}
	return api.OK
}

func (s step) onModel(m *model) api.Errno {
	switch s.kind {
	case "append":
		return m.add(s.name, s.more)
	case "sync":
		return m.sync(s.name)
	case "rename":
		return m.rename(s.name, s.more)
	case "delete":
		return m.remove(s.name)
	case "arm":
		m.armed, m.keep = max(s.n, -1), s.keep
	case "off":
		m.off(s.keep)
	case "on":
		m.on = true
	}
	return api.OK
}

// unlike tells in what the two differ, looking with all calls that change nothing.
func unlike(d *Disk, m *model, names ...string) string {
	if d.Up() != m.on {
		return fmt.Sprintf("P6.4: Up: %v", d.Up())
	}
	if d.Writes() != m.writes {
		return fmt.Sprintf("P6.4: Writes: %d; want %d", d.Writes(), m.writes)
	}
	if got, want := d.List(""), m.list(""); !slices.Equal(got, want) {
		return fmt.Sprintf("P6.3: List: %q; want %q", got, want)
	}
	for _, n := range names {
		b, e := d.Read(n)
		want, wantE := m.read(n)
		if string(b) != want || e != wantE {
			return fmt.Sprintf("P6.3: Read(%q): %q, %d; want %q, %d", n, b, e, want, wantE)
		}
	}
	return ""
}

// both plays a step on both, and ends the test where they differ.
func both(t *testing.T, d *Disk, m *model, s step, names ...string) {
	t.Helper()
	if got, want := s.onDisk(d), s.onModel(m); got != want {
		t.Fatalf("P6.2: %s: %d; want %d", s, got, want)
	}
	if how := unlike(d, m, names...); how != "" {
		t.Fatalf("behind %s: %s", s, how)
	}
}
