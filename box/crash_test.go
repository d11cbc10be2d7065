package box_test

import (
	"fmt"
	"math/rand"
	"strings"
	"testing"

	"waystone/api"
	"waystone/box"
	"waystone/disk"
)

// script is commands, and ticks, of which most write; its disk has halves of so many sectors, so that some compact.
const (
	script = "set router-id 0.0.0.1;commit;set router-id 0.0.0.2;commit;set router-id 0.0.0.3;commit-confirmed 2;confirm;" +
		"rollback 1;commit-confirmed 2;tick;tick;set router-id 0.0.0.4;commit;commit-confirmed 9;set router-id 0.0.0.5;commit;" +
		"set router-id 0.0.0.6;commit-confirmed 1;tick;delete router-id;commit-confirmed 3;rollback 1;commit-confirmed 1;confirm;commit"
	half = 7
)

// step does a command, or a tick.
func step(b *box.Box, command string) api.Errno {
	if command == "tick" {
		_, e := b.Tick()
		return e
	}
	_, _, e := b.Do(command)
	return e
}

// replay does commands on a disk of its own.
func replay(t *testing.T, commands []string) (*disk.Disk, *box.Box) {
	t.Helper()
	d, b := begun(t, 2+2*half, "")
	for _, s := range commands {
		wantErrno(t, s, step(b, s), api.OK)
	}
	return d, b
}

// behind is what runs behind a crash now, and what ran ahead of it: what waits has gone back.
func behind(b *box.Box) string {
	l := strings.Split(runs(b), " | ")
	if b.Pending() > 0 {
		l = append([]string{l[1]}, l...)
	}
	return strings.Join(l[:min(len(l), 6)], " | ")
}

// P18.2, P3: at each step of each command, and of each tick, and with each choice of what is kept.
func TestWhereverPowerGoes(t *testing.T) {
	all := strings.Split(script, ";")
	compacted := false
	for k, command := range all {
		_, b := replay(t, all[:k])
		before := behind(b)
		_, b = replay(t, all[:k+1])
		after := behind(b)
		for steps, done := 0, false; !done; steps++ {
			for bits, choices := 0, 1; bits < choices; bits++ {
				d, b := replay(t, all[:k])
				d.Arm(steps)
				e := step(b, command)
				if done = e == api.OK; done {
					break
				}
				wantErrno(t, command, e, api.ErrStop)
				choices = 1 << d.Waits()
				compacted = compacted || d.Waits() == half
				d.Crash(subset(d.Waits(), bits))
				what := fmt.Sprintf("%d: %s, step %d, kept %b", k, command, steps, bits)
				got := runs(checkedOpen(t, what, d))
				if got != before && got != after {
					t.Fatalf("%s: %s, want %s, or %s", what, got, before, after)
				}
			}
		}
	}
	if !compacted {
		t.Error("no try was one of a compaction")
	}
}

// checkedOpen opens, and asks that nothing waits, and that the same is found again.
func checkedOpen(t *testing.T, what string, d *disk.Disk) *box.Box {
	t.Helper()
	b := opened(t, d)
	if b.Pending() != 0 || line(b.Candidate()) != line(b.Running()) {
		t.Fatalf("%s: Pending %d, Candidate %v", what, b.Pending(), b.Candidate())
	}
	wantRuns(t, what, b, runs(b))
	if again := opened(t, d); runs(again) != runs(b) {
		t.Fatalf("%s: %s, was %s", what, runs(again), runs(b))
	}
	return b
}

// P18.2, P3: behind a crash that came to its end, all that was told ok is there.
func TestEachCommandStays(t *testing.T) {
	all := strings.Split(script, ";")
	for k := range all {
		d, b := replay(t, all[:k+1])
		d.Crash(nil)
		wantRuns(t, fmt.Sprint(k, ": ", all[k]), checkedOpen(t, all[k], d), behind(b))
	}
}

// P18.2, P3: power that goes while a box is opened takes nothing: what waits has gone back behind the next Open.
func TestPowerGoesInOpen(t *testing.T) {
	for ahead := range 8 {
		commands := ids(1) + strings.Repeat(";commit", ahead) + ";set router-id 0.0.0.9;commit-confirmed 3"
		_, b := begun(t, 2+2*half, commands)
		want := behind(b)
		for steps, done := 0, false; !done; steps++ {
			for bits, choices := 0, 1; bits < choices; bits++ {
				d, _ := begun(t, 2+2*half, commands)
				d.Arm(steps)
				b, e := box.Open(d)
				if done = e == api.OK; done {
					wantRuns(t, "Open", b, want)
					break
				}
				if b != nil || e != api.ErrStop {
					t.Fatalf("Open: error %d", e)
				}
				choices = 1 << d.Waits()
				d.Crash(subset(d.Waits(), bits))
				wantRuns(t, fmt.Sprintf("%d commits, step %d, kept %b", ahead+1, steps, bits), checkedOpen(t, "Open", d), want)
			}
		}
	}
}

// P18.2, P3: power that goes between ticks, at which nothing is written.
func TestPowerGoesWhileOneWaits(t *testing.T) {
	for n := range 5 {
		d, b := waiting(t, 5)
		ticks(t, b, n)
		d.Crash(nil)
		wantRuns(t, fmt.Sprint(n, " ticks"), checkedOpen(t, "Open", d), back)
	}
}

// anyCommand is one of a few, most of which may be done.
func anyCommand(r *rand.Rand) string {
	n := 1 + r.Intn(5)
	return some(r, fmt.Sprint("set router-id 0.0.0.", n), "delete router-id", "commit", "commit", "commit",
		fmt.Sprint("commit-confirmed ", n), fmt.Sprint("commit-confirmed ", n), "confirm", fmt.Sprint("rollback ", n), "tick", "tick")
}

// P18.2, P3: long lives, in which power goes again and again, perhaps while a box is opened behind a crash.
func TestPowerGoesAgainAndAgain(t *testing.T) {
	r := rand.New(rand.NewSource(18))
	crashes, kept := 0, 0
	for range 150 {
		size := 7 + r.Intn(6)
		d, b := begun(t, 2+2*size, "")
		m := newModel(size)
		for range 120 {
			command, after := anyCommand(r), m.clone()
			_, wantErr := after.do(command)
			d.Arm(r.Intn(40) - 10)
			e := step(b, command)
			d.Arm(-1)
			if e != api.ErrStop {
				wantErrno(t, command, e, wantErr)
				m = after
				continue
			}
			crashes++
			// the one in which power went is done, or it isn't
			m.crash()
			after.crash()
			b = openedAtLast(r, d)
			if got := runs(checkedOpen(t, command, d)); got != m.runs() {
				wantRuns(t, command, b, after.runs())
				m = after
				kept++
			}
			wantRuns(t, command, b, m.runs())
			// what was compacted in a try is known to the disk alone
			m.written = texts(entries(t, d))
		}
	}
	if crashes < 1000 || kept < 30 {
		t.Error(crashes, kept)
	}
}

// openedAtLast opens behind a crash, in which power goes a few times more.
func openedAtLast(r *rand.Rand, d *disk.Disk) *box.Box {
	for {
		d.Crash(subset(d.Waits(), int(r.Int31())))
		d.Arm(r.Intn(60) - 10)
		b, e := box.Open(d)
		d.Arm(-1)
		if e == api.OK {
			return b
		}
	}
}
