package journal_test

import (
	"bytes"
	"hash/crc32"
	"math"
	"testing"

	"waystone/api"
	"waystone/disk"
	"waystone/journal"
)

// P2.1
func TestCrc(t *testing.T) {
	if n := journal.Crc([]byte("123456789")); n != 0xCBF43926 {
		t.Errorf("%X", n)
	}
	if journal.Crc(nil) != 0 || journal.Crc([]byte{}) != 0 {
		t.Error("of no byte:", journal.Crc(nil))
	}
	for n := range 300 {
		for _, first := range []byte{0, 1, 77, 255} {
			b := []byte(text(n, first))
			if journal.Crc(b) != crc32.ChecksumIEEE(b) {
				t.Errorf("of %d bytes from %d on", n, first)
			}
		}
	}
	for c := range 256 {
		if b := []byte{byte(c)}; journal.Crc(b) != crc32.ChecksumIEEE(b) {
			t.Error("of the byte", c)
		}
	}
}

// P2.1
func TestTakes(t *testing.T) {
	for _, a := range [][2]int{{-19, 0}, {0, 1}, {1, 1}, {45, 1}, {46, 2}, {109, 2}, {110, 3}, {8192, 129},
		{math.MaxInt, math.MaxInt/64 + 2}, {math.MaxInt - 82, math.MaxInt / 64}} {
		if n := journal.Takes(a[0]); n != a[1] {
			t.Errorf("Takes(%d): %d, want %d", a[0], n, a[1])
		}
	}
	for n := range 9000 {
		if journal.Takes(n) != (n+19+63)/64 {
			t.Error("Takes of", n)
		}
	}
	journal.Takes(math.MinInt)
}

// P2.1
func TestBeginAndOpenNeedADisk(t *testing.T) {
	for _, sectors := range []int{0, 1, 2, 3} {
		var d *disk.Disk
		if sectors > 0 {
			d = newDisk(t, sectors)
			d.Arm(0)
			d.Flush()
		}
		if j, e := journal.Begin(d); j != nil || e != api.ErrArg {
			t.Error("Begin:", sectors, e)
		}
		if j, e := journal.Open(d); j != nil || e != api.ErrArg {
			t.Error("Open:", sectors, e)
		}
	}
	d, _ := begun(t, 4)
	d.Arm(0)
	d.Flush()
	if j, e := journal.Begin(d); j != nil || e != api.ErrStop {
		t.Error("Begin:", e)
	}
	if j, e := journal.Open(d); j != nil || e != api.ErrStop {
		t.Error("Open:", e)
	}
}

// P2.1
func TestHalvesHaveAsManySectorsEach(t *testing.T) {
	for _, a := range [][2]int{{4, 1}, {5, 1}, {6, 2}, {7, 2}, {22, 10}, {1023, 510}, {1024, 511}} {
		d, j := begun(t, a[0])
		if j.Free() != a[1] || open(t, d).Free() != a[1] {
			t.Errorf("of %d sectors: %d are free", a[0], j.Free())
		}
		put(t, j, "x")
		wantErrno(t, "Compact", j.Compact(lists("y")), api.OK)
		if b, _ := d.Read(2 + a[1]); !bytes.Equal(b, frameBytes(2, 0, "y")) {
			t.Errorf("of %d sectors: the other half doesn't begin at %d", a[0], 2+a[1])
		}
		wantTexts(t, "Open", opened(t, d), "y")
	}
}

// P2.1
func TestBeginOnANewDisk(t *testing.T) {
	d, j := begun(t, 8)
	wantImage(t, d, noughts, slotBytes(1, 0))
	if len(j.All()) != 0 || j.Free() != 3 || d.Waits() != 0 {
		t.Error(j.All(), j.Free(), d.Waits())
	}
	wantTexts(t, "Open", opened(t, d))
}

// P2.1
func TestBeginIsOfTheGenerationBehindTheGreatest(t *testing.T) {
	for _, a := range []struct {
		slots [2][]byte
		want  uint64
	}{
		{[2][]byte{slotBytes(6, 1), slotBytes(5, 0)}, 7},
		{[2][]byte{slotBytes(6, 1), slotBytes(7, 0)}, 8},
		{[2][]byte{slotBytes(0, 0), noughts}, 1},
		{[2][]byte{noughts, slotBytes(1<<32-1, 1)}, 1 << 32},
		{[2][]byte{slotBytes(1<<40, 0), noughts}, 1<<40 + 1},
		{[2][]byte{slotBytes(1<<40, 2), slotBytes(3, 0)}, 4},
		{[2][]byte{bytes.Repeat([]byte{255}, 64), bytes.Repeat([]byte{1}, 64)}, 1},
	} {
		d := newDisk(t, 6)
		lay(t, d, 0, append(bytes.Clone(a.slots[0]), a.slots[1]...))
		begin(t, d)
		if a.want%2 == 0 {
			wantImage(t, d, slotBytes(a.want, 0), noughts)
		} else {
			wantImage(t, d, noughts, slotBytes(a.want, 0))
		}
	}
}

// P2.1
func TestBeginForgetsWhatWas(t *testing.T) {
	d, j := begun(t, 10)
	put(t, j, "a", "b")
	j = begin(t, d)
	wantTexts(t, "All", texts(j))
	wantTexts(t, "Open", opened(t, d))
	put(t, j, "c")
	wantTexts(t, "Open", opened(t, d), "c")
	wantErrno(t, "Compact", j.Compact(lists("d")), api.OK)
	if b, _ := d.Read(6); !bytes.Equal(b, frameBytes(3, 0, "d")) {
		t.Errorf("Compact isn't in the other half: %q", b)
	}
	j = begin(t, d)
	put(t, j, "e")
	wantTexts(t, "Open", opened(t, d), "e")
	if b, _ := d.Read(2); !bytes.Equal(b, frameBytes(4, 0, "e")) {
		t.Errorf("%q", b)
	}
}

// P2.1: the writing of Begin is two sectors, the other slot first, and one flush.
func TestStepsOfBegin(t *testing.T) {
	for steps := range 4 {
		for kept := range 4 {
			d, j := begun(t, 8)
			put(t, j, "a")
			wantErrno(t, "Compact", j.Compact(lists("b")), api.OK)
			d.Arm(steps)
			j, e := journal.Begin(d)
			if want := steps == 3; (e == api.OK) != want || (j != nil) != want || d.Waits() != []int{0, 1, 2, 0}[steps] {
				t.Fatalf("Arm(%d): error %d, %d wait", steps, e, d.Waits())
			}
			d.Crash([]bool{kept&1 != 0, kept&2 != 0})
			first := steps == 3 || steps >= 1 && kept&1 != 0
			second := steps == 3 || steps >= 2 && kept&2 != 0
			slots := [][]byte{slotBytes(2, 1), slotBytes(1, 0)}
			if first {
				slots[0] = noughts
			}
			if second {
				slots[1] = slotBytes(3, 0)
			}
			wantImage(t, d, slots[0], slots[1], frameBytes(1, 0, "a"), noughts, noughts, frameBytes(2, 0, "b"))
		}
	}
}

// P2.1
func TestOpenNeedsARightSlot(t *testing.T) {
	other := func(at int, c byte) []byte {
		b := slotBytes(3, 0)
		b[at] = c
		return sealSlot(b)
	}
	for _, b := range [][]byte{noughts, slotBytes(3, 2), slotBytes(3, 255), slotBytes(2, 0), other(0, 'w'),
		other(3, 's'), other(13, 1), other(59, 1), bytes.Repeat([]byte{'W'}, 64)} {
		d := newDisk(t, 6)
		lay(t, d, 1, b)
		if j, e := journal.Open(d); j != nil || e != api.ErrForm {
			t.Errorf("%q: error %d", b, e)
		}
	}
	for i := range 512 {
		d := newDisk(t, 6)
		b := slotBytes(3, 0)
		b[i/8] ^= 1 << (i % 8)
		lay(t, d, 1, b)
		if j, e := journal.Open(d); j != nil || e != api.ErrForm {
			t.Errorf("bit %d turned: error %d", i, e)
		}
	}
}

// P2.1
func TestTheGreaterGenerationCounts(t *testing.T) {
	for _, a := range []struct {
		even, odd []byte
		want      string
	}{
		{slotBytes(4, 0), slotBytes(5, 1), "other"},
		{slotBytes(6, 0), slotBytes(5, 1), "one"},
		{slotBytes(1<<63, 0), slotBytes(5, 1), "one of many"},
		{slotBytes(6, 0)[:64], append(slotBytes(7, 1)[:63], 0), "one"},
		{noughts, slotBytes(5, 1), "other"},
	} {
		d := newDisk(t, 8)
		gen := uint64(6)
		if a.want == "one of many" {
			gen = 1 << 63
		}
		lay(t, d, 0, bytes.Join([][]byte{a.even, a.odd, frameBytes(gen, 0, a.want), noughts, noughts, frameBytes(5, 0, "other")}, nil))
		wantTexts(t, "Open", opened(t, d), a.want)
	}
}

// P2.1
func TestTheFirstWrongFrameEndsThem(t *testing.T) {
	a, b, c := text(45, 1), text(100, 2), text(3, 3)
	frames := func(gen uint64, p, q, r uint32) []byte {
		return bytes.Join([][]byte{frameBytes(gen, p, a), frameBytes(gen, q, b), frameBytes(gen, r, c)}, nil)
	}
	for _, x := range []struct {
		what   string
		frames []byte
		want   []string
	}{
		{"right", frames(1, 0, 1, 2), []string{a, b, c}},
		{"of another generation", frames(2, 0, 1, 2), nil},
		{"of a generation alike in its low bytes", frames(1<<32+1, 0, 1, 2), nil},
		{"of a wrong first place", frames(1, 1, 2, 3), nil},
		{"of a wrong second place", frames(1, 0, 2, 3), []string{a}},
		{"of a wrong third place", frames(1, 0, 1, 1), []string{a, b}},
		{"with noughts ahead", append(make([]byte, 64), frames(1, 0, 1, 2)...), nil},
		{"without a byte", append(frameBytes(1, 0, ""), frameBytes(1, 1, c)...), nil},
	} {
		d, _ := begun(t, 12)
		lay(t, d, 2, x.frames)
		wantTexts(t, x.what, opened(t, d), x.want...)
	}
	right := frames(1, 0, 1, 2)
	for i := range 64 * 8 {
		d, _ := begun(t, 12)
		turned := bytes.Clone(right)
		turned[64+i/4] ^= 1 << (i % 4 * 2)
		lay(t, d, 2, turned)
		wantTexts(t, "turned", opened(t, d), a)
	}
}

// P2.1
func TestAFrameStaysInItsHalf(t *testing.T) {
	long := text(100, 1)
	d, _ := begun(t, 8)
	lay(t, d, 2, append(frameBytes(1, 0, "x"), frameBytes(1, 1, text(110, 1))...))
	wantTexts(t, "beyond the half", opened(t, d), "x")
	d, _ = begun(t, 8)
	lay(t, d, 2, append(frameBytes(1, 0, "x"), frameBytes(1, 1, long)...))
	wantTexts(t, "up to its end", opened(t, d), "x", long)
	d, _ = begun(t, 6)
	lay(t, d, 2, bytes.Join([][]byte{frameBytes(1, 0, "x"), frameBytes(1, 1, "y"), frameBytes(1, 2, "z")}, nil))
	wantTexts(t, "in the other half", opened(t, d), "x", "y")
	d, _ = begun(t, 400)
	lay(t, d, 2, frameBytes(1, 0, text(8193, 1)))
	wantTexts(t, "too long", opened(t, d))
}

// P2.1
func TestAppend(t *testing.T) {
	d, j := begun(t, 300)
	free := j.Free()
	var want []string
	frames := [][]byte{noughts, slotBytes(1, 0)}
	for place, n := range []int{1, 45, 46, 64, 109, 110, 300, 1} {
		s := text(n, byte(n))
		put(t, j, s)
		want = append(want, s)
		free -= journal.Takes(n)
		frames = append(frames, frameBytes(1, uint32(place), s))
		wantTexts(t, "All", texts(j), want...)
		if j.Free() != free || d.Waits() != 0 {
			t.Errorf("%d free, want %d; %d wait", j.Free(), free, d.Waits())
		}
		wantImage(t, d, frames...)
		again := open(t, d)
		wantTexts(t, "Open", texts(again), want...)
		if again.Free() != free {
			t.Error("Open:", again.Free(), "free, want", free)
		}
	}
}

// P2.1
func TestAppendBehindOpen(t *testing.T) {
	d, j := begun(t, 22)
	put(t, j, "a", text(50, 1))
	put(t, open(t, d), "b")
	wantTexts(t, "Open", opened(t, d), "a", text(50, 1), "b")
	wantErrno(t, "Compact", open(t, d).Compact(lists("c")), api.OK)
	put(t, open(t, d), "d")
	wantTexts(t, "Open", opened(t, d), "c", "d")
}

// P2.1
func TestAppendOfWhatCantBe(t *testing.T) {
	d, j := begun(t, 262)
	put(t, j, "a")
	before := image(t, d)
	d.Arm(0)
	wantErrno(t, "of nil", j.Append(nil), api.ErrArg)
	wantErrno(t, "of no byte", j.Append([]byte{}), api.ErrArg)
	wantErrno(t, "of too many", j.Append(make([]byte, 8193)), api.ErrArg)
	wantErrno(t, "of far too many", j.Append(make([]byte, 1<<20)), api.ErrArg)
	if j.Free() != 129 || !d.On() || d.Waits() != 0 {
		t.Error(j.Free(), d.On(), d.Waits())
	}
	d.Arm(-1)
	if !bytes.Equal(before, image(t, d)) {
		t.Error("the disk has changed")
	}
	wantTexts(t, "All", texts(j), "a")
	most := text(8192, 9)
	put(t, j, most)
	if j.Free() != 0 {
		t.Error(j.Free())
	}
	wantTexts(t, "Open", opened(t, d), "a", most)
}

// P2.1
func TestAppendWithoutRoom(t *testing.T) {
	d, j := begun(t, 10)
	put(t, j, text(109, 1))
	before := image(t, d)
	d.Arm(0)
	wantErrno(t, "of three sectors", j.Append(make([]byte, 110)), api.ErrFull)
	wantErrno(t, "too long comes first", j.Append(make([]byte, 8193)), api.ErrArg)
	d.Arm(-1)
	if j.Free() != 2 || !bytes.Equal(before, image(t, d)) || d.Waits() != 0 {
		t.Error("what is refused has changed something")
	}
	put(t, j, text(46, 2))
	wantErrno(t, "of one", j.Append([]byte{1}), api.ErrFull)
	wantErrno(t, "of none", j.Append(nil), api.ErrArg)
	wantTexts(t, "Open", opened(t, d), text(109, 1), text(46, 2))
}

// P2.1: all sectors but the first one, a flush, the first one, a flush.
func TestStepsOfAppend(t *testing.T) {
	entry := text(120, 1)
	frame := frameBytes(1, 1, entry)
	for steps, want := range []struct {
		e     api.Errno
		waits int
		there []int // of the frame's sectors, when all that waits is kept
	}{
		{api.ErrStop, 0, nil},
		{api.ErrStop, 1, []int{1}},
		{api.ErrStop, 2, []int{1, 2}},
		{api.ErrStop, 0, []int{1, 2}},
		{api.ErrStop, 1, []int{0, 1, 2}},
		{api.OK, 0, []int{0, 1, 2}},
	} {
		d, j := begun(t, 12)
		put(t, j, "x")
		d.Arm(steps)
		wantErrno(t, "Append", j.Append([]byte(entry)), want.e)
		if d.Waits() != want.waits {
			t.Errorf("Arm(%d): %d wait", steps, d.Waits())
		}
		d.Crash(all(d.Waits()))
		there := make([]byte, len(frame))
		for _, i := range want.there {
			copy(there[i*64:], frame[i*64:i*64+64])
		}
		wantImage(t, d, noughts, slotBytes(1, 0), frameBytes(1, 0, "x"), there)
	}
	d, j := begun(t, 12)
	d.Arm(2)
	wantErrno(t, "of one sector: one Write, one Flush", j.Append([]byte("x")), api.OK)
	wantErrno(t, "and no more", j.Append([]byte("y")), api.ErrStop)
}

// P2.1
func TestCompact(t *testing.T) {
	d, j := begun(t, 12)
	put(t, j, "a", text(50, 1), "b")
	wantErrno(t, "Compact", j.Compact(lists(text(46, 2), "c")), api.OK)
	old := [][]byte{frameBytes(1, 0, "a"), frameBytes(1, 1, text(50, 1)), frameBytes(1, 2, "b"), noughts}
	first := bytes.Join(old, nil)
	wantImage(t, d, slotBytes(2, 1), slotBytes(1, 0), first, frameBytes(2, 0, text(46, 2)), frameBytes(2, 1, "c"))
	wantTexts(t, "All", texts(j), text(46, 2), "c")
	wantTexts(t, "Open", opened(t, d), text(46, 2), "c")
	if j.Free() != 2 || open(t, d).Free() != 2 || d.Waits() != 0 {
		t.Error(j.Free(), d.Waits())
	}
	put(t, j, "d")
	wantErrno(t, "Compact again", j.Compact(lists("e")), api.OK)
	other := bytes.Join([][]byte{frameBytes(2, 0, text(46, 2)), frameBytes(2, 1, "c"), frameBytes(2, 2, "d")}, nil)
	wantImage(t, d, slotBytes(2, 1), slotBytes(3, 0), frameBytes(3, 0, "e"), make([]byte, 64*4), other)
	wantErrno(t, "Compact to nothing", j.Compact(nil), api.OK)
	wantImage(t, d, slotBytes(4, 1), slotBytes(3, 0), frameBytes(3, 0, "e"))
	if len(j.All()) != 0 || j.Free() != 5 {
		t.Error(j.All(), j.Free())
	}
	wantTexts(t, "Open", opened(t, d))
}

// P2.1
func TestCompactOfWhatCantBe(t *testing.T) {
	d, j := begun(t, 12)
	put(t, j, "a", "b")
	before := image(t, d)
	d.Arm(0)
	long := text(8193, 1)
	for _, a := range []struct {
		l    [][]byte
		want api.Errno
	}{
		{lists(""), api.ErrArg},
		{[][]byte{nil}, api.ErrArg},
		{lists("x", "", "y"), api.ErrArg},
		{lists("x", long), api.ErrArg},
		{lists(text(302, 1)), api.ErrFull},
		{lists("1", "2", "3", "4", "5", "6"), api.ErrFull},
		{lists(text(110, 1), text(46, 1), "x"), api.ErrFull},
		{lists(text(8192, 1)), api.ErrFull},
		{lists("1", "2", "3", "4", "5", "6", ""), api.ErrArg},
	} {
		wantErrno(t, "Compact", j.Compact(a.l), a.want)
	}
	d.Arm(-1)
	if !bytes.Equal(before, image(t, d)) || j.Free() != 3 || d.Waits() != 0 {
		t.Error("what is refused has changed something")
	}
	wantTexts(t, "All", texts(j), "a", "b")
	wantErrno(t, "just full", j.Compact(lists(text(110, 1), text(46, 1))), api.OK)
	if j.Free() != 0 {
		t.Error(j.Free())
	}
	wantTexts(t, "Open", opened(t, d), text(110, 1), text(46, 1))
}

// P2.1: each sector of the half once, a flush, the slot, a flush.
func TestStepsOfCompact(t *testing.T) {
	for steps, waits := range []int{0, 1, 2, 3, 0, 1, 0} {
		d, j := begun(t, 8)
		lay(t, d, 5, bytes.Repeat([]byte{9}, 3*64))
		d.Arm(steps)
		want := api.ErrStop
		if steps == 6 {
			want = api.OK
		}
		wantErrno(t, "Compact", j.Compact(lists("x")), want)
		if d.Waits() != waits {
			t.Errorf("Arm(%d): %d wait, want %d", steps, d.Waits(), waits)
		}
		d.Crash(all(waits))
		half := bytes.Join([][]byte{frameBytes(2, 0, "x"), noughts, noughts}, nil)
		for i := min(steps, 3) * 64; i < len(half); i++ {
			half[i] = 9
		}
		slot := noughts
		if steps >= 5 {
			slot = slotBytes(2, 1)
		}
		wantImage(t, d, slot, slotBytes(1, 0), make([]byte, 3*64), half)
	}
}

// P2.1
func TestBehindTheLastGenerationIsNoOther(t *testing.T) {
	d := newDisk(t, 8)
	lay(t, d, 1, append(slotBytes(math.MaxUint64, 0), frameBytes(math.MaxUint64, 0, "a")...))
	j := open(t, d)
	put(t, j, "b")
	wantErrno(t, "Compact", j.Compact(lists("c")), api.ErrFull)
	wantTexts(t, "All", texts(j), "a", "b")
	wantTexts(t, "Open", opened(t, d), "a", "b")
	j = begin(t, d)
	put(t, j, "d")
	wantTexts(t, "Open", opened(t, d), "d")
}

// P2.1
func TestStopEndsAJournal(t *testing.T) {
	for _, end := range []func(j *journal.Journal) api.Errno{
		func(j *journal.Journal) api.Errno { return j.Append([]byte("b")) },
		func(j *journal.Journal) api.Errno { return j.Compact(lists("b")) },
		func(j *journal.Journal) api.Errno { return j.Compact(nil) },
	} {
		d, j := begun(t, 8)
		put(t, j, "a")
		d.Arm(1)
		wantErrno(t, "the end", end(j), api.ErrStop)
		for range 2 {
			wantErrno(t, "Append", j.Append([]byte("c")), api.ErrStop)
			wantErrno(t, "Append of none", j.Append(nil), api.ErrStop)
			wantErrno(t, "Append of many", j.Append(make([]byte, 200)), api.ErrStop)
			wantErrno(t, "Compact", j.Compact(nil), api.ErrStop)
			wantErrno(t, "Compact of none", j.Compact(lists("")), api.ErrStop)
			if len(j.All()) != 0 || j.Free() != 0 {
				t.Error(j.All(), j.Free())
			}
			d.Crash(nil)
		}
		wantTexts(t, "Open", opened(t, d), "a")
	}
}

// P2.1
func TestNoJournal(t *testing.T) {
	for _, j := range []*journal.Journal{nil, new(journal.Journal)} {
		wantErrno(t, "Append", j.Append([]byte("a")), api.ErrArg)
		wantErrno(t, "Append of none", j.Append(nil), api.ErrArg)
		wantErrno(t, "Compact", j.Compact(lists("a")), api.ErrArg)
		wantErrno(t, "Compact of none", j.Compact(nil), api.ErrArg)
		if len(j.All()) != 0 || j.Free() != 0 {
			t.Error(j.All(), j.Free())
		}
	}
}

// P2.3
func TestOpenWritesNothing(t *testing.T) {
	d, j := begun(t, 12)
	put(t, j, "a", text(50, 1))
	d.Arm(2)
	wantErrno(t, "Append", j.Append([]byte(text(100, 1))), api.ErrStop)
	d.Crash(nil)
	before := image(t, d)
	d.Arm(0)
	for range 3 {
		j := open(t, d)
		wantTexts(t, "Open", texts(j), "a", text(50, 1))
		if j.Free() != 2 || d.Waits() != 0 || !d.On() {
			t.Error(j.Free(), d.Waits(), d.On())
		}
	}
	if !bytes.Equal(before, image(t, d)) {
		t.Error("the disk has changed")
	}
	d = newDisk(t, 6)
	for range 2 {
		if _, e := journal.Open(d); e != api.ErrForm || d.Waits() != 0 {
			t.Error(e, d.Waits())
		}
	}
}

// P2.3: what waits is read as it was written last, and goes on waiting.
func TestOpenFlushesNothing(t *testing.T) {
	d, _ := begun(t, 6)
	d.Write(2, frameBytes(1, 0, "x"))
	wantTexts(t, "Open", opened(t, d), "x")
	if d.Waits() != 1 {
		t.Error(d.Waits())
	}
	d.Crash(nil)
	wantTexts(t, "Open", opened(t, d))
}

// P2.4
func TestNothingIsShared(t *testing.T) {
	d, j := begun(t, 22)
	room := append(bytes.Repeat([]byte{'a'}, 50), bytes.Repeat([]byte{'s'}, 100)...)
	entry := room[:50]
	wantErrno(t, "Append", j.Append(entry), api.OK)
	if string(room) != string(bytes.Repeat([]byte{'a'}, 50))+string(bytes.Repeat([]byte{'s'}, 100)) {
		t.Error("Append has changed what it was handed in")
	}
	clear(room)
	want := string(bytes.Repeat([]byte{'a'}, 50))
	wantTexts(t, "All", texts(j), want)

	l := j.All()
	clear(l[0])
	_ = append(l[:0], nil)
	wantTexts(t, "All", texts(j), want)
	j = open(t, d)
	clear(j.All()[0])
	wantTexts(t, "All of Open", texts(j), want)

	long := make([]byte, 10, 90)
	copy(long, "0123456789")
	handed := append(make([][]byte, 0, 5), long, []byte("y"))
	wantErrno(t, "Compact", j.Compact(handed), api.OK)
	if len(handed) != 2 || string(handed[0]) != "0123456789" || !bytes.Equal(long[10:90], make([]byte, 80)) || handed[:3][2] != nil {
		t.Error("Compact has changed what it was handed in")
	}
	clear(long)
	handed[1] = []byte("z")
	wantTexts(t, "All", texts(j), "0123456789", "y")

	l = j.All()
	_ = append(l[0], "more"...)
	if string(l[1]) != "y" {
		t.Error("two lists of one answer share memory")
	}
	clear(l[0])
	wantTexts(t, "All", texts(j), "0123456789", "y")
	wantErrno(t, "Compact of All", j.Compact(j.All()), api.OK)
	wantTexts(t, "Open", opened(t, d), "0123456789", "y")
}
