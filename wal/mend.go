package wal

import (
	"slices"

	"tidewrack/api"
	"tidewrack/codec"
)

// folder is what a log finds of its own files: numbers, rising.
type folder struct {
	checkpoints []int
	segments    []int
	hasDraft    bool
}

func (w *Wal) look() folder {
	// A disk that is off lists no files, without an error.
	if !w.disk.Up() {
		done(api.ErrDiskOff)
	}
	var f folder
	for _, name := range w.disk.List(w.dir + "/") {
		if number, ok := numbered(name, w.dir+"/c"); ok {
			f.checkpoints = append(f.checkpoints, number)
		}
		if number, ok := numbered(name, w.dir+"/s"); ok && number > 0 {
			f.segments = append(f.segments, number)
		}
		if name == w.draft() {
			f.hasDraft = true
		}
	}
	return f
}

// mend leaves only files that stand for their records, and tells these.
func (w *Wal) mend() [][]byte {
	f := w.look()
	if f.hasDraft {
		done(w.disk.Delete(w.draft()))
	}
	last := w.dropOld(f)
	recs := w.replayAll()
	w.open = last + 1
	if n := len(w.segments); n > 0 {
		w.open = w.segments[n-1]
	}
	return recs
}

// dropOld deletes what the last checkpoint stands for, takes the other files as the log's, and tells that checkpoint's number.
func (w *Wal) dropOld(f folder) int {
	last := 0
	if n := len(f.checkpoints); n > 0 {
		last = f.checkpoints[n-1]
		w.checkpoint = w.checkpointOf(last)
		for _, number := range f.checkpoints[:n-1] {
			done(w.disk.Delete(w.checkpointOf(number)))
		}
	}
	behind, _ := slices.BinarySearch(f.segments, last+1)
	for _, number := range f.segments[:behind] {
		done(w.disk.Delete(w.segment(number)))
	}
	w.segments = f.segments[behind:]
	return last
}

// replayAll goes through the files up to the first one that has something torn, and tears that off.
func (w *Wal) replayAll() [][]byte {
	var recs [][]byte
	if w.checkpoint != "" {
		more, whole, torn := w.replayFile(w.checkpoint)
		recs = more
		if torn {
			w.dropBehind(0)
			if !w.tearOff(w.checkpoint, whole) {
				w.checkpoint = ""
			}
		}
	}
	for i, number := range w.segments {
		more, whole, torn := w.replayFile(w.segment(number))
		recs = append(recs, more...)
		if torn {
			w.dropBehind(i + 1)
			if !w.tearOff(w.segment(number), whole) {
				w.segments = w.segments[:i]
			}
			break
		}
	}
	return recs
}

// replayFile tells a file's records, the bytes that they are, and whether something torn is behind them.
func (w *Wal) replayFile(name string) ([][]byte, []byte, bool) {
	b, e := w.disk.Read(name)
	done(e)
	recs, end := replay(b)
	return recs, b[:end], end < len(b)
}

// replay tells the records that stand in b one behind the other, and the place behind the last one.
func replay(b []byte) ([][]byte, int) {
	var recs [][]byte
	at := 0
next:
	rec, behind, e := codec.Unframe(b, at)
	if e != api.OK {
		return recs, at
	}
	recs = append(recs, rec)
	at = behind
	goto next
}

// dropBehind deletes all segments but the first so many, the last one first: wherever the power goes, no gap is left ahead of one that stays.
func (w *Wal) dropBehind(first int) {
	for len(w.segments) > first {
		last := len(w.segments) - 1
		done(w.disk.Delete(w.segment(w.segments[last])))
		w.segments = w.segments[:last]
	}
}

// tearOff leaves of a file what is whole, and tells whether that is something: else the file is gone. What codec reads, written anew, is the same bytes, so no record is framed again.
func (w *Wal) tearOff(name string, whole []byte) bool {
	if len(whole) == 0 {
		done(w.disk.Delete(name))
		return false
	}
	w.put(name, whole)
	return true
}
