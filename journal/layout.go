package journal

import (
	"bytes"

	"waystone/api"
	"waystone/disk"
)

// How a slot, a frame and a disk are laid.
const (
	mark       = "WAYS"
	genAt      = 4
	halfAt     = 12
	slotSumAt  = 60
	slotCount  = 2
	leadSize   = 13 // a byte F, the generation, the place
	frameSumAt = 15
	headSize   = 19
	minSectors = 4
)

// slot is what a slot tells: which generation counts, and in which half it stands.
type slot struct {
	gen  uint64
	half int
}

// at tells a slot's sector: two generations side by side never share one, so the older one stays till the newer one is there.
func (s slot) at() int {
	return int(s.gen % slotCount)
}

// sector tells the slot as it stands on the disk.
func (s slot) sector() []byte {
	b := make([]byte, api.SectorSize)
	copy(b, mark)
	lay(b[genAt:halfAt], s.gen)
	b[halfAt] = byte(s.half)
	lay(b[slotSumAt:], Crc(b[:slotSumAt]))
	return b
}

// readSlot tells the slot that sector i is, if it is right: just as sector would lay it there.
func readSlot(b []byte, i int) (slot, bool) {
	s := slot{gen: read[uint64](b[genAt:halfAt]), half: int(b[halfAt])}
	if s.half > 1 || s.at() != i || !bytes.Equal(b, s.sector()) {
		return slot{}, false
	}
	return s, true
}

// newest tells the right slot with the greater generation, if one is right.
func newest(d *disk.Disk) (slot, bool, api.Errno) {
	best, found := slot{}, false
	for i := range slotCount {
		b, e := d.Read(i)
		if e != api.OK {
			return slot{}, false, e
		}
		s, ok := readSlot(b, i)
		if ok && (!found || s.gen > best.gen) {
			best, found = s, true
		}
	}
	return best, found, api.OK
}

// halfSize tells how many sectors each half has.
func halfSize(d *disk.Disk) int {
	return (d.Size() - slotCount) / 2
}

// halfStart tells the first sector of a half.
func halfStart(d *disk.Disk, half int) int {
	return slotCount + half*halfSize(d)
}

// lead tells the bytes by which a frame of that generation and place is known.
func lead(gen uint64, place int) []byte {
	b := make([]byte, leadSize)
	b[0] = 'F'
	lay(b[1:9], gen)
	lay(b[9:], uint32(place))
	return b
}

// frame tells an entry's sectors as they stand on the disk.
func frame(gen uint64, place int, entry []byte) []byte {
	b := make([]byte, Takes(len(entry))*api.SectorSize)
	copy(b, lead(gen, place))
	lay(b[leadSize:frameSumAt], uint16(len(entry)))
	copy(b[headSize:], entry)
	lay(b[frameSumAt:headSize], ^grow(grow(^uint32(0), b[:frameSumAt]), entry))
	return b
}

// readFrame tells the entry with which b begins, if its frame is right: just as frame would lay it there.
func readFrame(b []byte, gen uint64, place int) ([]byte, bool) {
	if len(b) < api.SectorSize {
		return nil, false
	}
	count := int(read[uint16](b[leadSize:frameSumAt]))
	size := Takes(count) * api.SectorSize
	if count == 0 || count > api.MaxEntry || size > len(b) {
		return nil, false
	}
	entry := b[headSize : headSize+count]
	if !bytes.Equal(b[:size], frame(gen, place, entry)) {
		return nil, false
	}
	return bytes.Clone(entry), true
}

// readFrames tells the entries of a half's bytes: the first frame that isn't right ends them.
func readFrames(b []byte, gen uint64) [][]byte {
	var entries [][]byte
	for {
		entry, ok := readFrame(b, gen, len(entries))
		if !ok {
			return entries
		}
		entries = append(entries, entry)
		b = b[Takes(len(entry))*api.SectorSize:]
	}
}

// readHalf tells all bytes of a half.
func readHalf(d *disk.Disk, half int) ([]byte, api.Errno) {
	var all []byte
	start := halfStart(d, half)
	for i := range halfSize(d) {
		b, e := d.Read(start + i)
		if e != api.OK {
			return nil, e
		}
		all = append(all, b...)
	}
	return all, api.OK
}

// writeSectors writes whole sectors one behind the other, and flushes them.
func writeSectors(d *disk.Disk, start int, b []byte) api.Errno {
	for ; len(b) > 0; b = b[api.SectorSize:] {
		if e := d.Write(start, b[:api.SectorSize]); e != api.OK {
			return e
		}
		start++
	}
	return d.Flush()
}
