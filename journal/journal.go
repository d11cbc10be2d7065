// Package journal is layer 2: entries that stay: see shared/doc/02-journal.md.
package journal

import (
	"bytes"
	"math"

	"waystone/api"
	"waystone/disk"
)

// Journal is entries on a disk.
type Journal struct {
	disk    *disk.Disk
	slot    slot
	entries [][]byte
	used    int // sectors of the half
	ended   bool
}

// Takes tells how many sectors an entry of n bytes takes.
func Takes(n int) int {
	whole, rest := 0, n
	if n > 0 {
		// parted ahead of the sum, so that it doesn't go round for the greatest numbers
		whole, rest = n/api.SectorSize, n%api.SectorSize
	}
	return whole + (rest+headSize+api.SectorSize-1)/api.SectorSize
}

// Begin makes a journal without an entry, whatever the disk had.
func Begin(d *disk.Disk) (*Journal, api.Errno) {
	if d.Size() < minSectors {
		return nil, api.ErrArg
	}
	before, _, e := newest(d)
	if e != api.OK {
		return nil, e
	}
	j := &Journal{disk: d, slot: slot{gen: before.gen + 1}}
	if e := j.clear(); e != api.OK {
		return nil, e
	}
	noughts := make([]byte, api.SectorSize)
	if e := d.Write(1-j.slot.at(), noughts); e != api.OK {
		return nil, e
	}
	if e := writeSectors(d, j.slot.at(), j.slot.sector()); e != api.OK {
		return nil, e
	}
	return j, api.OK
}

// Open finds the journal that a disk has.
func Open(d *disk.Disk) (*Journal, api.Errno) {
	if d.Size() < minSectors {
		return nil, api.ErrArg
	}
	s, found, e := newest(d)
	if e != api.OK {
		return nil, e
	}
	if !found {
		return nil, api.ErrForm
	}
	b, e := readHalf(d, s.half)
	if e != api.OK {
		return nil, e
	}
	j := &Journal{disk: d, slot: s}
	j.hold(readFrames(b, s.gen))
	return j, api.OK
}

// Append adds an entry that stays.
func (j *Journal) Append(b []byte) api.Errno {
	if e := j.state(); e != api.OK {
		return e
	}
	if !allowed(b) {
		return api.ErrArg
	}
	if Takes(len(b)) > j.Free() {
		return api.ErrFull
	}
	if e := j.write(b); e != api.OK {
		return j.end(e)
	}
	j.entries = append(j.entries, bytes.Clone(b))
	j.used += Takes(len(b))
	return api.OK
}

// Compact lets these entries stand in place of all.
func (j *Journal) Compact(l [][]byte) api.Errno {
	if e := j.state(); e != api.OK {
		return e
	}
	takes := 0
	for _, b := range l {
		if !allowed(b) {
			return api.ErrArg
		}
		takes += Takes(len(b))
	}
	// behind the greatest generation of all there is none, and a lesser one wouldn't count
	if takes > halfSize(j.disk) || j.slot.gen == math.MaxUint64 {
		return api.ErrFull
	}
	next := slot{gen: j.slot.gen + 1, half: 1 - j.slot.half}
	if e := j.move(next, l); e != api.OK {
		return j.end(e)
	}
	j.slot = next
	j.hold(clones(l))
	return api.OK
}

// All tells the entries.
func (j *Journal) All() [][]byte {
	if j == nil {
		return nil
	}
	return clones(j.entries)
}

// Free tells how many sectors of the half are free.
func (j *Journal) Free() int {
	if j.state() != api.OK {
		return 0
	}
	return halfSize(j.disk) - j.used
}

// allowed tells whether bytes may be an entry.
func allowed(b []byte) bool {
	return len(b) > 0 && len(b) <= api.MaxEntry
}

// clones tells the same lists in new memory.
func clones(l [][]byte) [][]byte {
	var all [][]byte
	for _, b := range l {
		all = append(all, bytes.Clone(b))
	}
	return all
}

// state tells what stands against any call.
func (j *Journal) state() api.Errno {
	switch {
	case j == nil || j.disk == nil:
		return api.ErrArg
	case j.ended:
		return api.ErrStop
	}
	return api.OK
}

// end ends the journal: what is on the disk isn't known any more.
func (j *Journal) end(e api.Errno) api.Errno {
	j.ended, j.entries, j.used = true, nil, 0
	return e
}

// hold takes entries as those that stand on the disk.
func (j *Journal) hold(l [][]byte) {
	j.entries, j.used = l, 0
	for _, b := range l {
		j.used += Takes(len(b))
	}
}

// write writes an entry's frame; the first sector goes last, as the frame is right only by it.
func (j *Journal) write(entry []byte) api.Errno {
	place := len(j.entries)
	b := frame(j.slot.gen, place, entry)
	left, e := j.leftover(j.used+Takes(len(entry)), place+1)
	if e != api.OK {
		return e
	}
	if left {
		b = append(b, make([]byte, api.SectorSize)...)
	}
	start := halfStart(j.disk, j.slot.half) + j.used
	if len(b) > api.SectorSize {
		if e := writeSectors(j.disk, start+1, b[api.SectorSize:]); e != api.OK {
			return e
		}
	}
	return writeSectors(j.disk, start, b[:api.SectorSize])
}

// move writes entries to another slot's half, all of it, and then that slot.
func (j *Journal) move(to slot, l [][]byte) api.Errno {
	size := halfSize(j.disk) * api.SectorSize
	b := make([]byte, 0, size)
	for place, entry := range l {
		b = append(b, frame(to.gen, place, entry)...)
	}
	b = append(b, make([]byte, size-len(b))...)
	if e := writeSectors(j.disk, halfStart(j.disk, to.half), b); e != api.OK {
		return e
	}
	return writeSectors(j.disk, to.at(), to.sector())
}

// leftover tells whether the half's sector at begins as a frame that is to come at that place.
// A try in which power went may have left such a sector, and it must not count as an entry of ours.
func (j *Journal) leftover(at, place int) (bool, api.Errno) {
	if at >= halfSize(j.disk) {
		return false, api.OK
	}
	b, e := j.disk.Read(halfStart(j.disk, j.slot.half) + at)
	if e != api.OK {
		return false, e
	}
	return bytes.HasPrefix(b, lead(j.slot.gen, place)), api.OK
}

// clear takes away a frame that would be the first one of a journal that begins. It is gone ahead of the slot by which it would count.
func (j *Journal) clear() api.Errno {
	left, e := j.leftover(0, 0)
	if e != api.OK || !left {
		return e
	}
	return writeSectors(j.disk, halfStart(j.disk, j.slot.half), make([]byte, api.SectorSize))
}
