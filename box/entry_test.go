package box_test

import (
	"fmt"
	"strings"
	"testing"

	"waystone/api"
	"waystone/box"
	"waystone/conf"
	"waystone/disk"
	"waystone/journal"
)

// P18.1: what is written of each command, and of none else.
func TestEntries(t *testing.T) {
	d, b := begun(t, 400, "")
	wantEntries(t, "Begin", d)
	c := read(t, "router-id 0.0.0.1; interface e { area 0.0.0.0; address 10.0.0.1/24; }")
	var written []string
	for _, x := range []struct{ command, entry string }{
		{"set router-id 0.0.0.1", ""},
		{"commit", put1(id(1))},
		{"commit", put1(id(1))},
		{"set interface e area 0.0.0.0", ""},
		{"set interface e address 10.0.0.1/24", ""},
		{"check", ""},
		{"commit-confirmed 258", put2(258, c)},
		{"confirm", "\x03"},
		{"rollback 1", ""},
		{"commit-confirmed 65535", put2(65535, id(1))},
		{"delete router-id", ""},
		{"commit-confirmed 1", put2(1, nil)},
		{"tick", put4(id(1))},
		{"tick", ""},
		{"commit", put1(nil)},
	} {
		if x.command == "tick" {
			ticks(t, b, 1)
		} else {
			want(t, b, x.command, "ok", api.OK)
		}
		if x.entry != "" {
			written = append(written, x.entry)
		}
		wantEntries(t, x.command, d, written...)
	}
}

// P18.1: a box is opened by its entries, one by one; what waits then goes back at once, and that is written.
func TestOpenOfEntries(t *testing.T) {
	const one, two, three = "router-id 0.0.0.1", "router-id 0.0.0.2", "router-id 0.0.0.3"
	for _, x := range []struct {
		l    []string
		runs string
		back string
	}{
		{nil, "-", ""},
		{[]string{put1(id(1))}, one + " | -", ""},
		{[]string{put1(nil)}, "- | -", ""},
		{[]string{put1(id(1)), put1(id(2))}, two + " | " + one + " | -", ""},
		{[]string{put1(id(1)), put2(3, id(2)), "\x03"}, two + " | " + one + " | -", ""},
		{[]string{put1(id(1)), put2(3, id(2)), put4(id(1))}, one + " | " + two + " | " + one + " | -", ""},
		{[]string{put1(id(1)), put2(3, id(2)), put1(id(3))}, three + " | " + two + " | " + one + " | -", ""},
		{[]string{put1(id(1)), put2(3, id(2)), put2(9, id(3)), "\x03"}, three + " | " + two + " | " + one + " | -", ""},
		{[]string{put2(1, id(1))}, "- | " + one + " | -", put4(nil)},
		{[]string{put1(id(1)), put2(65535, id(2))}, one + " | " + two + " | " + one + " | -", put4(id(1))},
		{[]string{put1(id(1)), put2(3, id(2)), put2(9, id(3))}, two + " | " + three + " | " + two + " | " + one + " | -", put4(id(2))},
		{[]string{put1(id(1)), put2(256, id(1))}, one + " | " + one + " | " + one + " | -", put4(id(1))},
		// such as aren't written while nothing waits are read, too
		{[]string{"\x03", put1(id(1)), "\x03"}, one + " | -", ""},
		{[]string{put4(id(1)), put1(id(2))}, two + " | " + one + " | -", ""},
	} {
		d := laid(t, 200, x.l...)
		b := opened(t, d)
		what := fmt.Sprintf("%q", x.l)
		wantRuns(t, what, b, x.runs)
		if b.Pending() != 0 || line(b.Candidate()) != line(b.Running()) {
			t.Errorf("%s: Pending %d, Candidate %v", what, b.Pending(), b.Candidate())
		}
		written := x.l
		if x.back != "" {
			written = append(written[:len(written):len(written)], x.back)
		}
		wantEntries(t, what, d, written...)
		wantRuns(t, what+", again", opened(t, d), x.runs)
		wantEntries(t, what+", again", d, written...)
	}
}

// P18.1: what is opened goes on as a box.
func TestOpenGoesOn(t *testing.T) {
	d, b := begun(t, 200, ids(1, 2)+";set router-id 9.9.9.9")
	b = opened(t, d)
	want(t, b, "show", "router-id 0.0.0.2;\n", api.OK)
	refused(t, b, "confirm", "", api.ErrState)
	dos(t, b, "rollback 1;commit-confirmed 2")
	wantRuns(t, "commit-confirmed", b, "router-id 0.0.0.1 | router-id 0.0.0.2 | router-id 0.0.0.1 | -")
	ticks(t, b, 1)
	b = opened(t, d)
	wantRuns(t, "Open", b, "router-id 0.0.0.2 | router-id 0.0.0.1 | router-id 0.0.0.2 | router-id 0.0.0.1 | -")
	ticks(t, b, 3)
	wantRuns(t, "Tick", b, "router-id 0.0.0.2 | router-id 0.0.0.1 | router-id 0.0.0.2 | router-id 0.0.0.1 | -")
}

// P18.1, P1: entries that can't be read.
func TestOpenOfWrongEntries(t *testing.T) {
	line := put(id(1))
	wrong := []string{
		"\x00", "\x05", "\xff", "\x00" + line, "\x05" + line, "1" + line, "\x03\x00", "\x03" + line,
		"\x01\x00", "\x01\x03", "\x01" + line + "\x00", "\x01" + line + line, "\x01" + line[:len(line)-1], "\x01" + strings.Replace(line, "router-id", "router-ie", 1),
		"\x04\x00", "\x04" + line + line, "\x04" + line[1:],
		"\x02", "\x02\x00", "\x02\x01", "\x02\x00\x01\x00", "\x02\x00\x01" + line + line, "\x02\x00\x01" + line[:5], "\x02\x00" + line,
		// what was never committed: no ticks to wait, a configuration that can't be used
		put2(0, id(1)), put1(conf.Conf{{Head: api.Interface, Name: "e", Leaf: "cost", Value: "5"}}), put1(conf.Conf{{Leaf: "router-id", Value: "1.1.1"}}),
	}
	for _, s := range wrong {
		for _, l := range [][]string{{s}, {put1(id(1)), s}, {s, put1(id(1))}, {put2(3, id(1)), s}} {
			d := laid(t, 200, l...)
			if b, e := box.Open(d); b != nil || e != api.ErrForm {
				t.Errorf("%q: error %d, want %d", l, e, api.ErrForm)
			}
			wantEntries(t, fmt.Sprintf("%q", l), d, l...)
		}
	}
}

// P18.1: the errors of Begin and Open are the journal's, and the disk's.
func TestBeginAndOpenNeedADisk(t *testing.T) {
	off := newDisk(t, 200)
	off.Arm(0)
	off.Flush()
	for _, x := range []struct {
		d           *disk.Disk
		begin, open api.Errno
	}{
		{nil, api.ErrArg, api.ErrArg},
		{newDisk(t, 3), api.ErrArg, api.ErrArg},
		{off, api.ErrStop, api.ErrStop},
		{newDisk(t, 4), api.OK, api.ErrForm},
	} {
		if b, e := box.Open(x.d); b != nil || e != x.open {
			t.Error("Open: error", e)
		}
		if b, e := box.Begin(x.d); e != x.begin || (b != nil) != (e == api.OK) {
			t.Error("Begin: error", e)
		}
	}
	for steps := range 3 {
		d := newDisk(t, 200)
		d.Arm(steps)
		if b, e := box.Begin(d); b != nil || e != api.ErrStop {
			t.Error("Begin: error", e)
		}
	}
}

// P18.1: Begin has nothing, whatever the disk had.
func TestBeginForgets(t *testing.T) {
	d, _ := begun(t, 200, ids(1, 2)+";commit-confirmed 4")
	b, e := box.Begin(d)
	wantErrno(t, "Begin", e, api.OK)
	wantRuns(t, "Begin", b, "-")
	if b.Pending() != 0 || b.Candidate() != nil || b.Engine() == nil {
		t.Error(b.Pending(), b.Candidate())
	}
	wantRuns(t, "Open", opened(t, d), "-")
}

// P18.1: a journal without room is compacted to what the box has: of fewer than 5 in the archive without the nothing of the beginning, and of what waits an entry 2.
func TestCompaction(t *testing.T) {
	for n := 1; n < 9; n++ {
		for _, waits := range []bool{false, true} {
			var all string
			kept := []string{put1(nil)}
			for k := range n {
				all += fmt.Sprintf("set router-id 0.0.0.%d;commit-confirmed 9;confirm;", k+1)
				kept = append(kept, put1(id(k+1)))
			}
			half := 2 * n
			if waits {
				half--
				all = strings.TrimSuffix(all, "confirm;")
				kept[n] = put2(9, id(n))
			}
			if n < 5 {
				kept = kept[1:]
			}
			kept = kept[max(len(kept)-6, 0):]
			if len(kept) == half {
				continue
			}
			d, b := begun(t, 2+2*half, all)
			what := fmt.Sprint(n, " commits")
			if got := len(entries(t, d)); got != half {
				t.Fatalf("%s: %d entries, want %d", what, got, half)
			}
			ran := runs(b)
			dos(t, b, "set router-id 0.0.0.99;commit")
			wantEntries(t, what, d, append(kept, put1(id(99)))...)
			l := strings.Split("router-id 0.0.0.99 | "+ran, " | ")
			wantRuns(t, what, b, strings.Join(l[:min(len(l), 6)], " | "))
			wantRuns(t, what+", Open", opened(t, d), runs(b))
		}
	}
}

// P18.1, P3: with what waits the journal is compacted to an entry 2 of the ticks that it had at first, and it waits on as it did.
func TestCompactionWhileOneWaits(t *testing.T) {
	fill := func(n int) (*disk.Disk, *box.Box) {
		// a half of 8 sectors that is full
		d, b := begun(t, 18, ids(1, 2))
		for len(entries(t, d)) < 7 {
			dos(t, b, "commit")
		}
		dos(t, b, fmt.Sprint("set router-id 0.0.0.3;commit-confirmed ", n))
		ticks(t, b, n-2)
		return d, b
	}
	ahead := []string{put1(id(2)), put1(id(2)), put1(id(2)), put1(id(2)), put1(id(2)), put2(300, id(3))}
	d, b := fill(300)
	dos(t, b, "set router-id 0.0.0.4;commit")
	wantEntries(t, "commit", d, append(ahead, put1(id(4)))...)
	d, b = fill(300)
	dos(t, b, "set router-id 0.0.0.4;commit-confirmed 5")
	wantEntries(t, "commit-confirmed", d, append(ahead, put2(5, id(4)))...)
	d, b = fill(300)
	dos(t, b, "confirm")
	wantEntries(t, "confirm", d, append(ahead, "\x03")...)
	d, b = fill(300)
	ticks(t, b, 2)
	wantEntries(t, "Tick", d, append(ahead, put4(id(2)))...)
	d, b = fill(300)
	b = opened(t, d)
	wantEntries(t, "Open", d, append(ahead, put4(id(2)))...)
	wantRuns(t, "Open", b, "router-id 0.0.0.2 | router-id 0.0.0.3 | router-id 0.0.0.2 | router-id 0.0.0.2 | router-id 0.0.0.2 | router-id 0.0.0.2")
	// power that goes between the compaction and the entry finds it waiting
	d, b = fill(300)
	d.Arm(8 + 1 + 2)
	want(t, b, "confirm", "", api.ErrStop)
	d.Crash(nil)
	wantEntries(t, "crash", d, ahead...)
	wantRuns(t, "Open", opened(t, d), "router-id 0.0.0.2 | router-id 0.0.0.3 | router-id 0.0.0.2 | router-id 0.0.0.2 | router-id 0.0.0.2 | router-id 0.0.0.2")
}

// fourFaces is a configuration whose entry takes more than one sector.
func fourFaces(t *testing.T) conf.Conf {
	t.Helper()
	text := "router-id 1.1.1.1;"
	for i := range 4 {
		text += fmt.Sprintf("interface eth%d { area 0.0.0.0; address 10.0.%d.1/24; }", i, i)
	}
	return read(t, text)
}

// commands are those that set a configuration.
func commands(c conf.Conf) string {
	var l []string
	for _, x := range c {
		at := ""
		if x.Head > api.Top {
			at = []string{"area ", "interface "}[x.Head-1] + x.Name + " "
		}
		l = append(l, "set "+at+x.Leaf+" "+x.Value)
	}
	return strings.Join(l, ";")
}

// P18.1, P2: without room, also behind a compaction, nothing is changed.
func TestNoRoom(t *testing.T) {
	for half := 1; half < 9; half++ {
		d, b := begun(t, 2+2*half, "")
		for n := 1; n < 20; n++ {
			dos(t, b, fmt.Sprint("set router-id 0.0.0.", n))
			if half == 7 || half == 8 || n <= half {
				dos(t, b, "commit")
			} else {
				refused(t, b, "commit", "", api.ErrFull)
				refused(t, b, "commit-confirmed 5", "", api.ErrFull)
			}
			wantRuns(t, "Open", opened(t, d), runs(b))
		}
	}
}

// P18.1, P2: what has just room is done; one sector less, and it isn't.
func TestJustRoom(t *testing.T) {
	big := fourFaces(t)
	takes := journal.Takes(len(put1(big)))
	if takes < 4 {
		t.Fatal(takes)
	}
	for n := range 6 {
		for less := range 2 {
			d, b := begun(t, 2+2*(takes+n), "")
			for k := range n + less {
				dos(t, b, ids(k+1))
			}
			dos(t, b, commands(big))
			if less > 0 {
				refused(t, b, "commit", "", api.ErrFull)
				refused(t, b, "commit-confirmed 5", "", api.ErrFull)
			} else {
				dos(t, b, "commit")
			}
			wantRuns(t, "Open", opened(t, d), runs(b))
		}
	}
}

// P18.1: of an empty archive the journal is compacted to nothing, and just once.
func TestCompactionToNothing(t *testing.T) {
	d, b := begun(t, 4, commands(fourFaces(t)))
	for n := range 3 {
		sector, _ := d.Read((n + 1) % 2)
		if sector[11] != byte(n+1) {
			t.Errorf("of generation %d, want %d", sector[11], n+1)
		}
		refused(t, b, "commit", "", api.ErrFull)
		wantEntries(t, "commit", d)
	}
	dos(t, b, "delete interface eth0;delete interface eth1;delete interface eth2;delete interface eth3;commit")
	wantEntries(t, "commit", d, put1(read(t, "router-id 1.1.1.1;")))
	refused(t, b, "commit", "", api.ErrFull)
	wantRuns(t, "Open", opened(t, d), "router-id 1.1.1.1 | -")
}
