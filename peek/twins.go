package peek

import (
	"iter"
	"strconv"
	"strings"

	"tidewrack/api"
	"tidewrack/disk"
)

// Twins are two disks that were alike at first: what a layer does to its own is held against the document's words, done by hand on the other.
type Twins struct {
	Own   *disk.Disk
	Hand  *disk.Disk
	calls []string
}

// NewTwins has the disk as the layer's own, and a clone beside it.
func NewTwins(d *disk.Disk) *Twins {
	return &Twins{Own: d, Hand: d.Clone()}
}

// Both does to the two disks what is no call of the layer.
func (x *Twins) Both(do func(d *disk.Disk)) {
	do(x.Own)
	do(x.Hand)
}

// Differ tells how the answers to a call, or the disks behind it, differ: an empty text, if they do not.
func (x *Twins) Differ(call string, got string, want string) string {
	x.calls = append(x.calls, call)
	if got != want {
		return x.ahead() + short(got) + "; want " + short(want)
	}
	if !Alike(x.Own, x.Hand) {
		return x.ahead() + "the disk: " + shown(x.Own) + "; want " + shown(x.Hand)
	}
	return ""
}

const (
	lastCalls = 12
	longest   = 300
)

// ahead are the last calls, which led to this.
func (x *Twins) ahead() string {
	return strings.Join(x.calls[max(0, len(x.calls)-lastCalls):], ", ") + ": "
}

func short(s string) string {
	if len(s) <= longest {
		return s
	}
	return s[:longest] + " .."
}

func shown(d *disk.Disk) string {
	return short("on " + strconv.FormatBool(d.Up()) + ", " + strconv.FormatUint(d.Writes(), 10) + " writes, safe" + listed(Safe(d)) + ", files" + listed(Files(d)))
}

func listed(files []api.File) string {
	var b strings.Builder
	for _, f := range files {
		b.WriteString(" " + f.Name + " " + strconv.Quote(string(f.Data)))
	}
	return b.String()
}

// Scripts are all rows of so many steps, each step one of so many kinds.
func Scripts(kinds int, length int) iter.Seq[[]int] {
	return func(yield func([]int) bool) {
		script := make([]int, length)
		for yield(script) && turnOver(script, kinds) {
		}
	}
}

// turnOver goes on to the next script: the first step turns at once, another one when all ahead of it have come round.
func turnOver(script []int, kinds int) bool {
	for i := range script {
		script[i] = (script[i] + 1) % kinds
		if script[i] > 0 {
			return true
		}
	}
	return false
}
