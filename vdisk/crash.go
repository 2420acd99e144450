package vdisk

import "rickyard/api"

// gate takes a call that has no error of its own: it does it, or not, and tells what it answers.
type gate func(cut cutRule, do func()) api.Errno

// cutRule says whether the call at which the disk crashes is done ahead of the crash.
type cutRule int

const (
	ifOdd cutRule = iota // if the fuse's keep is odd
	always
)

// openGate is the gate of a disk without a fuse.
func openGate() gate {
	return func(_ cutRule, do func()) api.Errno {
		do()
		return api.OK
	}
}

// fuseGate is the gate at which the disk crashes when the n-th call comes to it. It is not reached
// again: the disk is not up, and On lays another gate.
func (d *Disk) fuseGate(n, keep int) gate {
	return func(cut cutRule, do func()) api.Errno {
		if n > 1 {
			n--
			do()
			return api.OK
		}
		// Not keep%2 == 1: of a keep that is odd and below 0 this is -1.
		if cut == always || keep%2 != 0 {
			do()
		}
		d.Crash(keep)
		return api.ErrOff
	}
}

// Fuse lets the disk crash at the n-th call from now on; at none, if n is below 1.
func (d *Disk) Fuse(n, keep int) {
	d.pass = openGate()
	if n >= 1 {
		d.pass = d.fuseGate(n, keep)
	}
}

// Crash takes the disk down, and what was not synced with it, but for beginnings.
func (d *Disk) Crash(keep int) {
	d.up = false
	for _, f := range d.files {
		f.crash(keep)
	}
}

// On takes the disk up.
func (d *Disk) On() {
	d.up = true
	d.pass = openGate()
}

// Up tells whether the disk is up.
func (d *Disk) Up() bool {
	return d.up
}

// crash leaves f what is synced, and some bytes behind that, which are synced then.
func (f *file) crash(keep int) {
	if keep > 0 {
		f.synced += keep % (len(f.bytes) - f.synced + 1)
	}
	f.bytes = f.bytes[:f.synced]
}
