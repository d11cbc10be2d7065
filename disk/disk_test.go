package disk_test

import (
	"bytes"
	"math"
	"math/rand"
	"testing"

	"waystone/api"
	"waystone/disk"
)

func made(t *testing.T, sectors int) *disk.Disk {
	t.Helper()
	d, e := disk.New(sectors)
	if e != api.OK {
		t.Fatal("New:", e)
	}
	return d
}

func full(c byte) []byte {
	return bytes.Repeat([]byte{c}, api.SectorSize)
}

func wantSector(t *testing.T, d *disk.Disk, i int, c byte) {
	t.Helper()
	if b, e := d.Read(i); e != api.OK || !bytes.Equal(b, full(c)) {
		t.Errorf("sector %d: %v, error %d, want all %d", i, b, e, c)
	}
}

func wantErrno(t *testing.T, what string, got, want api.Errno) {
	t.Helper()
	if got != want {
		t.Errorf("%s: error %d, want %d", what, got, want)
	}
}

// P1.1
func TestNewHasSoManySectorsOfNoughts(t *testing.T) {
	for _, sectors := range []int{1, 2, 1023, api.MaxSectors} {
		d := made(t, sectors)
		if !d.On() || d.Size() != sectors || d.Waits() != 0 {
			t.Errorf("New(%d): on %v, size %d, waits %d", sectors, d.On(), d.Size(), d.Waits())
		}
		for i := range sectors {
			wantSector(t, d, i, 0)
		}
	}
	for _, sectors := range []int{math.MinInt, -1, 0, api.MaxSectors + 1, math.MaxInt} {
		if d, e := disk.New(sectors); d != nil || e != api.ErrArg {
			t.Errorf("New(%d): %v, error %d", sectors, d, e)
		}
	}
}

// P1.1
func TestWhatCantBeIsRefusedAndChangesNothing(t *testing.T) {
	d := made(t, 2)
	d.Write(1, full(7))
	d.Arm(0)
	for _, i := range []int{math.MinInt, -1, 2, math.MaxInt} {
		if b, e := d.Read(i); b != nil || e != api.ErrArg {
			t.Errorf("Read(%d): %v, error %d", i, b, e)
		}
		wantErrno(t, "Write of no sector", d.Write(i, full(1)), api.ErrArg)
	}
	for _, size := range []int{0, 1, 63, 65, 128} {
		wantErrno(t, "Write of a wrong size", d.Write(0, make([]byte, size)), api.ErrArg)
	}
	wantErrno(t, "Write of nil", d.Write(0, nil), api.ErrArg)
	if !d.On() || d.Waits() != 1 {
		t.Error("on, waits:", d.On(), d.Waits())
	}
	wantSector(t, d, 0, 0)
	wantSector(t, d, 1, 7)
	wantErrno(t, "the armed Flush", d.Flush(), api.ErrStop)
}

// P1.1
func TestWithoutPowerAllIsStopped(t *testing.T) {
	d := made(t, 3)
	d.Write(0, full(1))
	d.Write(2, full(2))
	d.Arm(0)
	wantErrno(t, "Write", d.Write(1, full(3)), api.ErrStop)
	if d.On() || d.Size() != 3 || d.Waits() != 2 {
		t.Error("on, size, waits:", d.On(), d.Size(), d.Waits())
	}
	for _, i := range []int{0, -1, 3} {
		if b, e := d.Read(i); b != nil || e != api.ErrStop {
			t.Errorf("Read(%d): %v, error %d", i, b, e)
		}
		wantErrno(t, "Write", d.Write(i, full(1)), api.ErrStop)
		wantErrno(t, "Write of a wrong size", d.Write(i, nil), api.ErrStop)
	}
	wantErrno(t, "Flush", d.Flush(), api.ErrStop)
	d.Arm(-1)
	wantErrno(t, "Flush behind Arm", d.Flush(), api.ErrStop)
	if d.On() || d.Waits() != 2 {
		t.Error("on, waits:", d.On(), d.Waits())
	}
	d.Crash([]bool{false, true})
	wantSector(t, d, 0, 0)
	wantSector(t, d, 1, 0)
	wantSector(t, d, 2, 2)
}

// P1.1
func TestTheLastWritingWaits(t *testing.T) {
	d := made(t, 3)
	for _, c := range []byte{1, 2, 3} {
		wantErrno(t, "Write", d.Write(1, full(c)), api.OK)
		wantSector(t, d, 1, c)
	}
	if d.Waits() != 1 {
		t.Error("waits:", d.Waits())
	}
	d.Crash(nil)
	wantSector(t, d, 1, 0)
	d.Write(1, full(4))
	wantErrno(t, "Flush", d.Flush(), api.OK)
	if d.Waits() != 0 {
		t.Error("waits:", d.Waits())
	}
	d.Write(1, full(5))
	d.Crash(nil)
	wantSector(t, d, 1, 4)
	d.Write(1, full(4))
	if d.Waits() != 1 {
		t.Error("the same bytes, written again, wait as well:", d.Waits())
	}
}

// P1.1
func TestCrashKeepsByTheOrderOfTheFirstWriting(t *testing.T) {
	for _, a := range []struct {
		kept []bool
		want [3]byte
	}{
		{nil, [3]byte{9, 9, 9}},
		{[]bool{}, [3]byte{9, 9, 9}},
		{[]bool{true}, [3]byte{9, 9, 4}},
		{[]bool{false, true}, [3]byte{2, 9, 9}},
		{[]bool{false, false, true}, [3]byte{9, 3, 9}},
		{[]bool{true, true, true, true, true}, [3]byte{2, 3, 4}},
		{[]bool{false, false, false, true}, [3]byte{9, 9, 9}},
	} {
		d := made(t, 3)
		for i := range 3 {
			d.Write(i, full(9))
		}
		d.Flush()
		// sector 2 was first, though its last writing is behind all
		d.Write(2, full(1))
		d.Write(0, full(2))
		d.Write(1, full(3))
		d.Write(2, full(4))
		d.Crash(a.kept)
		if !d.On() || d.Waits() != 0 {
			t.Error("on, waits:", d.On(), d.Waits())
		}
		for i, c := range a.want {
			wantSector(t, d, i, c)
		}
		d.Crash([]bool{true, true, true})
		for i, c := range a.want {
			wantSector(t, d, i, c)
		}
	}
}

// P1.1
func TestTheArmedStepIsNotDone(t *testing.T) {
	for steps := range 4 {
		d := made(t, 2)
		calls := []func() api.Errno{
			func() api.Errno { return d.Write(0, full(1)) },
			func() api.Errno { return d.Flush() },
			func() api.Errno { return d.Write(0, full(2)) },
			func() api.Errno { return d.Flush() },
		}
		d.Arm(steps)
		for k, call := range calls {
			d.Read(0)
			if k < steps {
				wantErrno(t, "refused", d.Write(0, nil), api.ErrArg)
				wantErrno(t, "ahead", call(), api.OK)
			} else {
				wantErrno(t, "armed", call(), api.ErrStop)
			}
			if d.On() != (k < steps) {
				t.Errorf("Arm(%d), call %d: on %v", steps, k, d.On())
			}
		}
		if want := []int{0, 1, 0, 1}[steps]; d.Waits() != want {
			t.Errorf("Arm(%d): %d wait, want %d", steps, d.Waits(), want)
		}
		d.Crash([]bool{true})
		wantSector(t, d, 0, []byte{0, 1, 1, 2}[steps])
	}
}

// P1.1
func TestArmAgainAndCrashDisarm(t *testing.T) {
	d := made(t, 1)
	for _, below := range []int{-1, math.MinInt} {
		d.Arm(0)
		d.Arm(below)
		wantErrno(t, "Flush", d.Flush(), api.OK)
	}
	d.Arm(0)
	d.Arm(1)
	wantErrno(t, "Flush", d.Flush(), api.OK)
	wantErrno(t, "Flush", d.Flush(), api.ErrStop)
	d.Crash(nil)
	wantErrno(t, "Flush", d.Flush(), api.OK)
	d.Arm(0)
	d.Crash(nil)
	wantErrno(t, "Flush", d.Flush(), api.OK)
	d.Arm(math.MaxInt)
	wantErrno(t, "Flush", d.Flush(), api.OK)
	d.Arm(0)
	d.Flush()
	d.Arm(0)
	d.Crash(nil)
	wantErrno(t, "Flush", d.Flush(), api.OK)
}

// P1.1
func TestNoDisk(t *testing.T) {
	var d *disk.Disk
	if b, e := d.Read(0); b != nil || e != api.ErrArg {
		t.Error(b, e)
	}
	wantErrno(t, "Write", d.Write(0, full(1)), api.ErrArg)
	wantErrno(t, "Flush", d.Flush(), api.ErrArg)
	d.Arm(0)
	d.Crash([]bool{true})
	if d.On() || d.Size() != 0 || d.Waits() != 0 {
		t.Error(d.On(), d.Size(), d.Waits())
	}
	d = new(disk.Disk)
	d.Arm(0)
	d.Crash([]bool{true})
	if b, e := d.Read(0); b != nil || e == api.OK || d.Write(0, full(1)) == api.OK {
		t.Error(b, e)
	}
}

// P1.2
func TestNothingIsShared(t *testing.T) {
	d := made(t, 2)
	room := bytes.Repeat([]byte{5}, 80)
	d.Write(0, room[:64])
	if !bytes.Equal(room, bytes.Repeat([]byte{5}, 80)) {
		t.Error("what is handed in was changed")
	}
	clear(room)
	wantSector(t, d, 0, 5)
	d.Flush()
	wantSector(t, d, 0, 5)
	a, _ := d.Read(0)
	b, _ := d.Read(0)
	clear(a)
	wantSector(t, d, 0, 5)
	if !bytes.Equal(b, full(5)) {
		t.Error("two answers share memory")
	}
	d.Write(1, b)
	clear(b)
	kept := []bool{true, false, true}
	d.Crash(kept)
	if !kept[0] || kept[1] || !kept[2] {
		t.Error("what is handed in was changed:", kept)
	}
	wantSector(t, d, 0, 5)
	wantSector(t, d, 1, 5)
}

// model is a disk as plain lists of what was done.
type model struct {
	stays, last []byte
	order       []int
	on          bool
	left        int
}

func (m *model) step() bool {
	if m.left == 0 {
		m.on, m.left = false, -1
		return false
	}
	if m.left > 0 {
		m.left--
	}
	return true
}

func (m *model) write(i int, c byte, size int) api.Errno {
	switch {
	case !m.on:
		return api.ErrStop
	case i < 0 || i >= len(m.last) || size != 64:
		return api.ErrArg
	case !m.step():
		return api.ErrStop
	}
	m.last[i] = c
	for _, k := range m.order {
		if k == i {
			return api.OK
		}
	}
	m.order = append(m.order, i)
	return api.OK
}

func (m *model) flush() api.Errno {
	if !m.on || !m.step() {
		return api.ErrStop
	}
	copy(m.stays, m.last)
	m.order = nil
	return api.OK
}

func (m *model) crash(kept []bool) {
	for k, i := range m.order {
		if k < len(kept) && kept[k] {
			m.stays[i] = m.last[i]
		}
	}
	copy(m.last, m.stays)
	m.order, m.on, m.left = nil, true, -1
}

// P1.1
func TestAsThePlainModel(t *testing.T) {
	r := rand.New(rand.NewSource(1))
	for range 300 {
		size := 1 + r.Intn(6)
		d := made(t, size)
		m := &model{stays: make([]byte, size), last: make([]byte, size), on: true, left: -1}
		for range 60 {
			stepBoth(t, r, d, m)
			if d.On() != m.on || d.Waits() != len(m.order) || d.Size() != size {
				t.Fatal("on, waits, size:", d.On(), d.Waits(), d.Size())
			}
			for i := range size {
				b, e := d.Read(i)
				if m.on && (e != api.OK || !bytes.Equal(b, full(m.last[i]))) || !m.on && e != api.ErrStop {
					t.Fatal("Read:", i, b, e)
				}
			}
		}
	}
}

func stepBoth(t *testing.T, r *rand.Rand, d *disk.Disk, m *model) {
	t.Helper()
	switch r.Intn(10) {
	case 0:
		wantErrno(t, "Flush", d.Flush(), m.flush())
	case 1:
		kept := make([]bool, r.Intn(7))
		for k := range kept {
			kept[k] = r.Intn(2) == 0
		}
		d.Crash(kept)
		m.crash(kept)
	case 2:
		steps := r.Intn(8) - 2
		d.Arm(steps)
		if m.on {
			m.left = max(steps, -1)
		}
	default:
		i, c, size := r.Intn(8)-1, byte(r.Intn(256)), 64-r.Intn(12)/11
		wantErrno(t, "Write", d.Write(i, full(c)[:size]), m.write(i, c, size))
	}
}
