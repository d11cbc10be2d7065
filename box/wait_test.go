package box_test

import (
	"fmt"
	"testing"

	"waystone/api"
	"waystone/box"
	"waystone/disk"
	"waystone/journal"
)

const back = "router-id 0.0.0.1 | router-id 0.0.0.2 | router-id 0.0.0.1 | -"

// waiting is a box of which a commit waits so many ticks.
func waiting(t *testing.T, n int) (*disk.Disk, *box.Box) {
	t.Helper()
	d, b := begun(t, 200, ids(1)+";set router-id 0.0.0.2")
	dos(t, b, fmt.Sprint("commit-confirmed ", n))
	if b.Pending() != n {
		t.Errorf("Pending %d, want %d", b.Pending(), n)
	}
	return d, b
}

// P18.3, P6: what isn't confirmed goes back at its tick just.
func TestGoesBack(t *testing.T) {
	for _, n := range []int{1, 2, 3, 10, 255, 256, 257, 65535} {
		d, b := waiting(t, n)
		for k := n - 1; k > 0; k-- {
			ticks(t, b, 1)
			if b.Pending() != k {
				t.Fatalf("of %d: Pending %d, want %d", n, b.Pending(), k)
			}
		}
		wantRuns(t, fmt.Sprint("ahead of tick ", n), b, "router-id 0.0.0.2 | router-id 0.0.0.1 | -")
		for range 3 {
			ticks(t, b, 1)
			wantRuns(t, fmt.Sprint("tick ", n), b, back)
			if b.Pending() != 0 {
				t.Errorf("Pending %d", b.Pending())
			}
		}
		refused(t, b, "confirm", "", api.ErrState)
		wantEntries(t, fmt.Sprint("tick ", n), d, put1(id(1)), put2(n, id(2)), put4(id(1)))
		wantRuns(t, "Open", opened(t, d), back)
	}
}

// P18.3, P6, P3: what is confirmed, at any tick ahead of its last one, never goes back, not behind a crash either.
func TestConfirmed(t *testing.T) {
	const kept = "router-id 0.0.0.2 | router-id 0.0.0.1 | -"
	for _, n := range []int{1, 2, 5} {
		for k := range n {
			for _, x := range []struct{ commands, runs string }{
				{"confirm", kept},
				{"commit", "router-id 0.0.0.2 | " + kept},
				{"set router-id 0.0.0.3;commit", "router-id 0.0.0.3 | " + kept},
				{"rollback 1;commit", "router-id 0.0.0.1 | " + kept},
				{"set router-id 0.0.0.3;commit-confirmed 9;confirm", "router-id 0.0.0.3 | " + kept},
			} {
				d, b := waiting(t, n)
				ticks(t, b, k)
				dos(t, b, x.commands)
				if b.Pending() != 0 {
					t.Errorf("%s: Pending %d", x.commands, b.Pending())
				}
				refused(t, b, "confirm", "", api.ErrState)
				wantRuns(t, x.commands, b, x.runs)
				ticks(t, b, 20)
				wantRuns(t, x.commands+", ticks", b, x.runs)
				d.Crash(nil)
				b = opened(t, d)
				wantRuns(t, x.commands+", Open", b, x.runs)
				ticks(t, b, 20)
				wantRuns(t, x.commands+", Open, ticks", b, x.runs)
			}
		}
	}
}

// P18.1, P18.3: one that is to be confirmed confirms the one that waits; it goes back to that one, at its own tick.
func TestConfirmedByATrial(t *testing.T) {
	d, b := waiting(t, 3)
	ticks(t, b, 2)
	dos(t, b, "set router-id 0.0.0.3;commit-confirmed 5")
	ticks(t, b, 4)
	const ahead = "router-id 0.0.0.2 | router-id 0.0.0.1 | -"
	wantRuns(t, "ticks", b, "router-id 0.0.0.3 | "+ahead)
	if b.Pending() != 1 {
		t.Errorf("Pending %d", b.Pending())
	}
	ticks(t, b, 1)
	wantRuns(t, "its tick", b, "router-id 0.0.0.2 | router-id 0.0.0.3 | "+ahead)
	ticks(t, b, 9)
	wantRuns(t, "more ticks", b, "router-id 0.0.0.2 | router-id 0.0.0.3 | "+ahead)
	wantRuns(t, "Open", opened(t, d), "router-id 0.0.0.2 | router-id 0.0.0.3 | "+ahead)
}

// P18.1: what is edited stays as it is when a commit goes back, and what is refused doesn't end the waiting.
func TestGoesBackBesideACandidate(t *testing.T) {
	_, b := waiting(t, 4)
	dos(t, b, "set interface e cost 5")
	ticks(t, b, 1)
	refused(t, b, "commit", "noarea e\nnoaddress e\n", api.ErrRule)
	refused(t, b, "commit-confirmed 100", "noarea e\nnoaddress e\n", api.ErrRule)
	refused(t, b, "rollback 3", "", api.ErrNone)
	refused(t, b, "confirm it", "", api.ErrForm)
	ticks(t, b, 3)
	wantRuns(t, "ticks", b, back)
	want(t, b, "show", "router-id 0.0.0.2;\ninterface e {\n  cost 5;\n}\n", api.OK)
	dos(t, b, "rollback 1")
	want(t, b, "show", "router-id 0.0.0.2;\n", api.OK)
}

// P18.1: behind as many as are kept, too, it goes back to the one that ran ahead of it.
func TestGoesBackWithAFullArchive(t *testing.T) {
	_, b := begun(t, 200, ids(1, 2, 3, 4, 5, 6, 7)+";set router-id 0.0.0.8;commit-confirmed 1")
	ticks(t, b, 1)
	wantRuns(t, "tick", b, "router-id 0.0.0.7 | router-id 0.0.0.8 | router-id 0.0.0.7 | router-id 0.0.0.6 | router-id 0.0.0.5 | router-id 0.0.0.4")
}

// stuck is a box of which a commit waits that can't go back, as what ran ahead of it takes more than there is room for; so many sectors are free.
func stuck(t *testing.T, n, free int) (*disk.Disk, *box.Box) {
	t.Helper()
	big := fourFaces(t)
	takes := journal.Takes(len(put1(big)))
	d, b := begun(t, 2+2*(takes+2+free), commands(big)+";commit;delete interface eth1;delete interface eth2;delete interface eth3")
	dos(t, b, fmt.Sprint("commit-confirmed ", n))
	if journal.Takes(len(put2(n, b.Running()))) != 2 {
		t.Fatal(b.Running())
	}
	return d, b
}

// P18.1, P18.3: without room it is tried at each tick, and time stands still till it is confirmed, if that has room.
func TestCannotGoBack(t *testing.T) {
	for free := range 3 {
		d, b := stuck(t, 5, free)
		ticks(t, b, 4)
		before := stands(b)
		for range 12 {
			if out, e := b.Tick(); len(out) > 0 || e != api.ErrFull {
				t.Fatalf("Tick: %v, error %d", out, e)
			}
			if after := stands(b); b.Pending() != 1 || after != before {
				t.Fatalf("%s, was %s", after, before)
			}
			if x := entries(t, d); len(x) != 2 || string(x[1]) != put2(5, b.Running()) {
				t.Fatalf("%q", x)
			}
		}
		want(t, b, "compare", "", api.OK)
		if free == 0 {
			refused(t, b, "confirm", "", api.ErrFull)
			refused(t, b, "commit", "", api.ErrFull)
			continue
		}
		ran := runs(b)
		dos(t, b, "confirm")
		wantRuns(t, "confirm", b, ran)
		seen := 0
		for range 10 {
			out, e := b.Tick()
			wantErrno(t, "Tick", e, api.OK)
			seen += len(out)
		}
		// its Hello, every 10 ticks
		if seen != 1 {
			t.Errorf("%d packets are sent", seen)
		}
		wantRuns(t, "ticks", b, ran)
	}
}

// P18.1: Open of what can't go back for want of room finds it still waiting for that.
func TestCannotGoBackInOpen(t *testing.T) {
	for free := range 3 {
		d, b := stuck(t, 500, free)
		ticks(t, b, 1)
		ran := runs(b)
		for range 3 {
			b = opened(t, d)
			wantRuns(t, "Open", b, ran)
			if b.Pending() != 1 || line(b.Candidate()) != line(b.Running()) {
				t.Errorf("Pending %d, Candidate %v", b.Pending(), b.Candidate())
			}
			if out, e := b.Tick(); len(out) > 0 || e != api.ErrFull || b.Pending() != 1 {
				t.Errorf("Tick: %v, error %d, Pending %d", out, e, b.Pending())
			}
			if x := entries(t, d); len(x) != 2 || string(x[1]) != put2(500, b.Running()) {
				t.Fatalf("%q", x)
			}
		}
		if free > 0 {
			dos(t, b, "confirm")
			ticks(t, b, 3)
			wantRuns(t, "confirm", b, ran)
			wantRuns(t, "Open", opened(t, d), ran)
		}
	}
}
