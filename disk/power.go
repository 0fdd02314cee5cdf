package disk

import "tidewrack/api"

// trap: what a disk is armed with. So many writes are done ahead of the one in which the power goes.
type trap struct {
	set   bool
	ahead int
	keep  int
}

// What becomes of a write in which the power goes.
const (
	lostInCut  = false
	landsInCut = true
)

// write is the only way to change files while the power is on: here the writes are counted, and here an armed disk's power goes.
func (d *Disk) write(lands bool, do func()) api.Errno {
	d.writes++
	if d.trap.set && d.trap.ahead == 0 {
		if lands {
			do()
		}
		d.cutPower(d.trap.keep)
		d.disarm()
		return api.ErrDiskOff
	}
	if d.trap.set {
		d.trap.ahead--
	}
	do()
	return api.OK
}

func (d *Disk) cutPower(keep int) {
	for _, f := range d.files {
		f.lose(keep)
	}
	d.off = true
}

func (d *Disk) disarm() {
	d.trap = trap{}
}
