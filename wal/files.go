package wal

import (
	"strconv"
	"strings"

	"tidewrack/api"
	"tidewrack/names"
)

const (
	maxFolder = 32
	digits    = 8
)

func isFolder(dir string) bool {
	return names.OfFile(dir) && len(dir) <= maxFolder
}

func (w *Wal) segment(number int) string {
	return w.dir + "/s" + eightDigits(number)
}

func (w *Wal) checkpointOf(number int) string {
	return w.dir + "/c" + eightDigits(number)
}

// draft is the file that gets another one's name once it is whole and synced.
func (w *Wal) draft() string {
	return w.dir + "/new"
}

func eightDigits(number int) string {
	text := strconv.Itoa(number)
	return strings.Repeat("0", max(0, digits-len(text))) + text
}

// numbered is the number of a file whose name is ahead and eight digits.
func numbered(name string, ahead string) (int, bool) {
	text, ok := strings.CutPrefix(name, ahead)
	if !ok || len(text) != digits {
		return 0, false
	}
	number, err := strconv.ParseUint(text, 10, 32)
	return int(number), err == nil
}

func (w *Wal) hasOpenFile() bool {
	last := len(w.segments) - 1
	return last >= 0 && w.segments[last] == w.open
}

// roll goes on to the next segment, if the open one is full. The disk is asked for its bytes: those that a power cut has taken count no more.
func (w *Wal) roll() {
	b, e := w.disk.Read(w.segment(w.open))
	if e == api.ErrDiskNone {
		return
	}
	done(e)
	if len(b) >= api.MaxSegment {
		done(w.disk.Sync(w.segment(w.open)))
		w.open++
	}
}

// write appends to the open segment. A write in which the power goes has made the file, too, one for which there is no room has not.
func (w *Wal) write(frame []byte) {
	e := w.disk.Append(w.segment(w.open), frame)
	if e != api.ErrDiskFull && !w.hasOpenFile() {
		w.segments = append(w.segments, w.open)
	}
	done(e)
}

// put lets the file of that name be just these bytes, or stay what it was, wherever the power goes.
func (w *Wal) put(name string, b []byte) {
	done(w.disk.Append(w.draft(), b))
	done(w.disk.Sync(w.draft()))
	done(w.disk.Rename(w.draft(), name))
}

func (w *Wal) cut(frames []byte) {
	name := w.checkpointOf(w.open)
	w.put(name, frames)
	// What is appended to a segment up to the checkpoint's number is not read any more, even if a deletion fails.
	w.open++
	if w.checkpoint != "" {
		done(w.disk.Delete(w.checkpoint))
	}
	w.checkpoint = name
	for len(w.segments) > 0 {
		done(w.disk.Delete(w.segment(w.segments[0])))
		w.segments = w.segments[1:]
	}
}
