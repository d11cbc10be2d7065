package journal_test

import (
	"bytes"
	"encoding/binary"
	"hash/crc32"
	"testing"

	"waystone/api"
	"waystone/disk"
	"waystone/journal"
)

func newDisk(t *testing.T, sectors int) *disk.Disk {
	t.Helper()
	d, e := disk.New(sectors)
	if e != api.OK {
		t.Fatal("disk.New:", e)
	}
	return d
}

func begun(t *testing.T, sectors int) (*disk.Disk, *journal.Journal) {
	t.Helper()
	d := newDisk(t, sectors)
	return d, begin(t, d)
}

func begin(t *testing.T, d *disk.Disk) *journal.Journal {
	t.Helper()
	j, e := journal.Begin(d)
	if e != api.OK || j == nil {
		t.Fatal("Begin:", e)
	}
	return j
}

func open(t *testing.T, d *disk.Disk) *journal.Journal {
	t.Helper()
	j, e := journal.Open(d)
	if e != api.OK || j == nil {
		t.Fatal("Open:", e)
	}
	return j
}

// opened is Open's entries.
func opened(t *testing.T, d *disk.Disk) []string {
	t.Helper()
	return texts(open(t, d))
}

func texts(j *journal.Journal) []string {
	var l []string
	for _, b := range j.All() {
		l = append(l, string(b))
	}
	return l
}

func same(a, b []string) bool {
	if len(a) != len(b) {
		return false
	}
	for i := range a {
		if a[i] != b[i] {
			return false
		}
	}
	return true
}

func short(l []string) []string {
	var all []string
	for _, s := range l {
		all = append(all, s[:min(len(s), 12)])
	}
	return all
}

func wantTexts(t *testing.T, what string, got []string, want ...string) {
	t.Helper()
	if !same(got, want) {
		t.Errorf("%s: %q, want %q", what, short(got), short(want))
	}
}

func wantErrno(t *testing.T, what string, got, want api.Errno) {
	t.Helper()
	if got != want {
		t.Errorf("%s: error %d, want %d", what, got, want)
	}
}

func put(t *testing.T, j *journal.Journal, l ...string) {
	t.Helper()
	for _, s := range l {
		wantErrno(t, "Append", j.Append([]byte(s)), api.OK)
	}
}

func lists(l ...string) [][]byte {
	var all [][]byte
	for _, s := range l {
		all = append(all, []byte(s))
	}
	return all
}

// text is n bytes, none of them a nought.
func text(n int, first byte) string {
	b := make([]byte, n)
	for i := range b {
		b[i] = 1 + (first+byte(i))%250
	}
	return string(b)
}

// slotBytes is a slot as the document lays it, by other means than the journal's.
func slotBytes(gen uint64, half byte) []byte {
	b := append([]byte("WAYS"), make([]byte, 60)...)
	binary.BigEndian.PutUint64(b[4:], gen)
	b[12] = half
	return sealSlot(b)
}

func sealSlot(b []byte) []byte {
	binary.BigEndian.PutUint32(b[60:], crc32.ChecksumIEEE(b[:60]))
	return b
}

// frameBytes is a frame as the document lays it, by other means than the journal's.
func frameBytes(gen uint64, place uint32, entry string) []byte {
	b := binary.BigEndian.AppendUint64([]byte{'F'}, gen)
	b = binary.BigEndian.AppendUint32(b, place)
	b = binary.BigEndian.AppendUint16(b, uint16(len(entry)))
	b = binary.BigEndian.AppendUint32(b, crc32.ChecksumIEEE(append(bytes.Clone(b), entry...)))
	b = append(b, entry...)
	for len(b)%64 != 0 {
		b = append(b, 0)
	}
	return b
}

// lay writes sectors one behind the other, and flushes.
func lay(t *testing.T, d *disk.Disk, at int, b []byte) {
	t.Helper()
	for ; len(b) > 0; b = b[64:] {
		wantErrno(t, "Write", d.Write(at, b[:64]), api.OK)
		at++
	}
	wantErrno(t, "Flush", d.Flush(), api.OK)
}

// image is all of a disk's bytes.
func image(t *testing.T, d *disk.Disk) []byte {
	t.Helper()
	var all []byte
	for i := range d.Size() {
		b, e := d.Read(i)
		if e != api.OK {
			t.Fatal("Read:", e)
		}
		all = append(all, b...)
	}
	return all
}

func wantImage(t *testing.T, d *disk.Disk, parts ...[]byte) {
	t.Helper()
	want := bytes.Join(parts, nil)
	want = append(want, make([]byte, d.Size()*64-len(want))...)
	got := image(t, d)
	for i := range d.Size() {
		if a, b := got[i*64:i*64+64], want[i*64:i*64+64]; !bytes.Equal(a, b) {
			t.Errorf("sector %d:\n got %q\nwant %q", i, a, b)
		}
	}
}

var noughts = make([]byte, 64)

func all(n int) []bool {
	kept := make([]bool, n)
	for k := range kept {
		kept[k] = true
	}
	return kept
}
