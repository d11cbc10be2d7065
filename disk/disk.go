// Package disk is layer 1: sectors, of which power may keep any that wait: see shared/doc/01-disk.md.
package disk

import "waystone/api"

// sector is one: what stays if power goes, and what was written last.
type sector struct {
	stays [api.SectorSize]byte
	last  [api.SectorSize]byte
	waits bool
}

// Disk is sectors, and those that wait.
type Disk struct {
	sectors []sector
	waiting []int // in the order of their first writing: Crash counts by it
	on      bool
	left    int // steps that are still done; below 0 all are
}

// New makes a disk of so many sectors, all noughts, with power on.
func New(sectors int) (*Disk, api.Errno) {
	if sectors < 1 || sectors > api.MaxSectors {
		return nil, api.ErrArg
	}
	return &Disk{sectors: make([]sector, sectors), on: true, left: -1}, api.OK
}

// Read tells a sector as it was written last, whether that waits or not.
func (d *Disk) Read(i int) ([]byte, api.Errno) {
	switch {
	case d == nil:
		return nil, api.ErrArg
	case !d.on:
		return nil, api.ErrStop
	case !d.has(i):
		return nil, api.ErrArg
	}
	last := d.sectors[i].last
	return last[:], api.OK
}

// Write lets a sector wait for the next Flush.
func (d *Disk) Write(i int, b []byte) api.Errno {
	switch {
	case d == nil:
		return api.ErrArg
	case !d.on:
		return api.ErrStop
	case !d.has(i) || len(b) != api.SectorSize:
		return api.ErrArg
	case d.fails():
		return api.ErrStop
	}
	s := &d.sectors[i]
	copy(s.last[:], b)
	if !s.waits {
		s.waits = true
		d.waiting = append(d.waiting, i)
	}
	return api.OK
}

// Flush makes all that wait stay.
func (d *Disk) Flush() api.Errno {
	switch {
	case d == nil:
		return api.ErrArg
	case !d.on:
		return api.ErrStop
	case d.fails():
		return api.ErrStop
	}
	d.settle(func(int) bool { return true })
	return api.OK
}

// Arm lets power go in the Write or Flush behind so many; below 0 in none.
func (d *Disk) Arm(steps int) {
	if d == nil {
		return
	}
	d.left = steps
}

// Crash lets power go and come again: of what waits just those stay that kept names.
func (d *Disk) Crash(kept []bool) {
	if d == nil {
		return
	}
	d.settle(func(k int) bool { return k < len(kept) && kept[k] })
	d.on, d.left = true, -1
}

// On tells whether power is on.
func (d *Disk) On() bool {
	return d != nil && d.on
}

// Size tells how many sectors there are.
func (d *Disk) Size() int {
	if d == nil {
		return 0
	}
	return len(d.sectors)
}

// Waits tells how many sectors wait.
func (d *Disk) Waits() int {
	if d == nil {
		return 0
	}
	return len(d.waiting)
}

func (d *Disk) has(i int) bool {
	return i >= 0 && i < len(d.sectors)
}

// fails counts a step that isn't refused; in the one that was armed power goes.
func (d *Disk) fails() bool {
	switch {
	case d.left == 0:
		d.on = false
		return true
	case d.left > 0:
		d.left--
	}
	return false
}

// settle ends the waiting: the k-th sector stays as it was written, if stays says so, else it is as it stayed last.
func (d *Disk) settle(stays func(k int) bool) {
	for k, i := range d.waiting {
		s := &d.sectors[i]
		if stays(k) {
			s.stays = s.last
		} else {
			s.last = s.stays
		}
		s.waits = false
	}
	d.waiting = nil
}
