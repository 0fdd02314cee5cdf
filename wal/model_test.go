package wal

import (
	"encoding/binary"
	"fmt"
	"hash/crc32"
	"maps"
	"slices"
	"sort"
	"strconv"
	"strings"
	"testing"

	"tidewrack/api"
	"tidewrack/disk"
	"tidewrack/peek"
)

// op is one write of those that the chapter asks for. What a call does is held against the same writes, done by hand on a twin of its disk.
type op struct{ kind, name, more string }

func do(d *disk.Disk, ops ...op) api.Errno {
	for _, o := range ops {
		e := api.OK
		switch o.kind {
		case "append":
			e = d.Append(o.name, []byte(o.more))
		case "sync":
			e = d.Sync(o.name)
		case "rename":
			e = d.Rename(o.name, o.more)
		case "delete":
			e = d.Delete(o.name)
		}
		if e != api.OK {
			return e
		}
	}
	return api.OK
}

func filesOf(d *disk.Disk) map[string]string {
	files := map[string]string{}
	for _, f := range peek.Files(d) {
		files[f.Name] = string(f.Data)
	}
	return files
}

// framed is a record's frame by the library's sum and numbers.
func framed(rec string) string {
	b := binary.AppendUvarint(nil, uint64(len(rec)))
	b = binary.BigEndian.AppendUint32(b, crc32.ChecksumIEEE([]byte(rec)))
	return string(b) + rec
}

// parted is a file's records, and what is torn.
func parted(file string) ([]string, string) {
	var recs []string
	for {
		size, k := binary.Uvarint([]byte(file))
		if k < 1 || size > 65536 || len(file) < k+4+int(size) || framed(file[k+4:k+4+int(size)]) != file[:k+4+int(size)] {
			return recs, file
		}
		recs, file = append(recs, file[k+4:k+4+int(size)]), file[k+4+int(size):]
	}
}

// logFiles are the names of a folder's checkpoints or segments, by their numbers.
func logFiles(d *disk.Disk, dir, kind string) map[int]string {
	out := map[int]string{}
	for name := range filesOf(d) {
		digits, ok := strings.CutPrefix(name, dir+"/"+kind)
		if !ok || len(digits) != 8 || strings.Trim(digits, "0123456789") != "" {
			continue
		}
		number, _ := strconv.Atoi(digits)
		if kind == "c" || number > 0 {
			out[number] = name
		}
	}
	return out
}

func rising[V any](m map[int]V) []int {
	keys := slices.Collect(maps.Keys(m))
	sort.Ints(keys)
	return keys
}

// opening is what Open has to write, to tell, and to take as its open segment.
func opening(d *disk.Disk, dir string) (ops []op, recs []string, open int) {
	files, checkpoints, segments := filesOf(d), logFiles(d, dir, "c"), logFiles(d, dir, "s")
	if _, ok := files[dir+"/new"]; ok {
		ops = append(ops, op{"delete", dir + "/new", ""})
	}
	n := 0
	var read []string
	for _, c := range rising(checkpoints) {
		if len(read) > 0 {
			ops = append(ops, op{"delete", read[0], ""})
		}
		n, read = c, []string{checkpoints[c]}
	}
	var above []int
	for _, s := range rising(segments) {
		if s <= n {
			ops = append(ops, op{"delete", segments[s], ""})
			continue
		}
		above, read = append(above, s), append(read, segments[s])
	}
	for i, name := range read {
		more, torn := parted(files[name])
		recs = append(recs, more...)
		if torn == "" {
			continue
		}
		for k := len(read) - 1; k > i; k-- {
			ops = append(ops, op{"delete", read[k], ""})
		}
		above = above[:max(0, len(above)-(len(read)-1-i))]
		whole := files[name][:len(files[name])-len(torn)]
		if whole != "" {
			ops = append(ops, op{"append", dir + "/new", whole}, op{"sync", dir + "/new", ""}, op{"rename", dir + "/new", name})
			break
		}
		ops = append(ops, op{"delete", name, ""})
		above = above[:max(0, len(above)-1)]
		break
	}
	open = n + 1
	if len(above) > 0 {
		open = above[len(above)-1]
	}
	return ops, recs, open
}

// twin is a log beside a model of it. Each has a disk of its own; what is done to one is done to the other.
type twin struct {
	t     *testing.T
	dir   string
	w     *Wal
	d     *disk.Disk
	byOps *disk.Disk
	open  int
	shut  bool // no log: a Cut has failed, or Open
	told  []string
}

func newTwin(t *testing.T, d *disk.Disk, dir string) *twin {
	return &twin{t: t, dir: dir, d: d, byOps: d.Clone(), shut: true}
}

func (x *twin) both(f func(d *disk.Disk)) {
	f(x.d)
	f(x.byOps)
}

func texts(recs [][]byte) []string {
	var out []string
	for _, r := range recs {
		out = append(out, string(r))
	}
	return out
}

func (x *twin) same(what string, got, want api.Errno) {
	x.t.Helper()
	if got != want {
		x.t.Fatalf("%s: %d, not %d", what, got, want)
	}
	if !peek.Alike(x.d, x.byOps) {
		x.t.Fatalf("%s: writes %d, not %d; files %q, safe %q; not %q, safe %q", what, x.d.Writes(), x.byOps.Writes(), filesOf(x.d), peek.Safe(x.d), filesOf(x.byOps), peek.Safe(x.byOps))
	}
	if !x.shut && x.w.Segments() != len(logFiles(x.d, x.dir, "s")) {
		x.t.Fatalf("P7.4: %s: %d segments of %q", what, x.w.Segments(), x.d.List(""))
	}
}

// doOps is what the chapter's writes come to; a disk that is off does none.
func (x *twin) doOps(ops []op) api.Errno {
	if !x.byOps.Up() {
		return api.ErrDiskOff
	}
	return do(x.byOps, ops...)
}

func (x *twin) Open() api.Errno {
	x.t.Helper()
	ops, recs, open := opening(x.byOps, x.dir)
	want := x.doOps(ops)
	if want != api.OK {
		recs = nil
	}
	w, got, e := Open(x.d, x.dir)
	x.w, x.open, x.shut, x.told = w, open, e != api.OK, texts(got)
	if (w == nil) != (e != api.OK) || !slices.Equal(texts(got), recs) {
		x.t.Fatalf("P7.1: Open: %.100q, %d, not %.100q", got, e, recs)
	}
	x.same("P7.1: Open", e, want)
	return e
}

func (x *twin) segment(number int) string {
	return fmt.Sprintf("%s/s%08d", x.dir, number)
}

func (x *twin) Append(rec string) api.Errno {
	x.t.Helper()
	want := api.ErrWalLong
	if len(rec) <= 65536 {
		want = x.doOps(nil)
		if want == api.OK && len(filesOf(x.byOps)[x.segment(x.open)]) >= 4096 {
			if want = do(x.byOps, op{"sync", x.segment(x.open), ""}); want == api.OK {
				x.open++
			}
		}
		if want == api.OK {
			want = do(x.byOps, op{"append", x.segment(x.open), framed(rec)})
		}
	}
	e := x.w.Append([]byte(rec))
	x.same("P7.2: Append", e, want)
	return e
}

func (x *twin) Sync() api.Errno {
	x.t.Helper()
	want := api.OK
	if _, ok := filesOf(x.byOps)[x.segment(x.open)]; ok {
		want = x.doOps([]op{{"sync", x.segment(x.open), ""}})
	}
	e := x.w.Sync()
	x.same("P7.2: Sync", e, want)
	return e
}

func (x *twin) Cut(keep ...string) api.Errno {
	x.t.Helper()
	var bytes [][]byte
	frames, long := "", false
	for _, rec := range keep {
		bytes = append(bytes, []byte(rec))
		frames += framed(rec)
		long = long || len(rec) > 65536
	}
	draft, name := x.dir+"/new", fmt.Sprintf("%s/c%08d", x.dir, x.open)
	ops := []op{{"append", draft, frames}, {"sync", draft, ""}, {"rename", draft, name}}
	for _, kind := range []string{"c", "s"} {
		files := logFiles(x.byOps, x.dir, kind)
		for _, number := range rising(files) {
			ops = append(ops, op{"delete", files[number], ""})
		}
	}
	want := api.ErrWalLong
	if !long {
		want = x.doOps(ops)
	}
	e := x.w.Cut(bytes)
	x.shut = e != api.OK && e != api.ErrWalLong
	if e == api.OK {
		x.open++
	}
	x.same("P7.3: Cut", e, want)
	return e
}
