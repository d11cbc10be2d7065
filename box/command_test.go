package box_test

import (
	"fmt"
	"math"
	"strings"
	"testing"

	"waystone/api"
	"waystone/box"
	"waystone/parse"
)

// face is an interface that may be used, as commands.
const face = "set interface e area 0.0.0.0;set interface e address 10.0.0.1/24"

// P18.1: the example.
func TestExample(t *testing.T) {
	_, b := begun(t, 200, "")
	wantRuns(t, "Begin", b, "-")
	want(t, b, "show", "", api.OK)
	want(t, b, "set router-id 9.9.9.9", "ok", api.OK)
	want(t, b, "commit", "ok", api.OK)
	want(t, b, "show", "router-id 9.9.9.9;\n", api.OK)
	wantRuns(t, "commit", b, "router-id 9.9.9.9 | -")
}

// P18.1, P2: what is set and deleted is in the candidate, and nowhere else.
func TestEdits(t *testing.T) {
	d, b := begun(t, 200, "")
	for _, x := range []struct{ command, candidate string }{
		{"set interface e cost 5", "e cost 5"},
		{"  set\tinterface e cost 6 # more", "e cost 6"},
		{"set area 0.0.0.1 type stub", "0.0.0.1 type stub,e cost 6"},
		{"set router-id 1.1.1.1", "router-id 1.1.1.1,0.0.0.1 type stub,e cost 6"},
		{"set interface e dead 9", "router-id 1.1.1.1,0.0.0.1 type stub,e cost 6,e dead 9"},
		{"set interface e cost 6", "router-id 1.1.1.1,0.0.0.1 type stub,e cost 6,e dead 9"},
		{"delete router-id", "0.0.0.1 type stub,e cost 6,e dead 9"},
		{"delete interface e cost", "0.0.0.1 type stub,e dead 9"},
		{"set interface e cost 7", "0.0.0.1 type stub,e cost 7,e dead 9"},
		{"delete interface e", "0.0.0.1 type stub"},
		{"delete area 0.0.0.1", "-"},
	} {
		want(t, b, x.command, "ok", api.OK)
		if got := line(b.Candidate()); got != x.candidate {
			t.Errorf("%s: %s, want %s", x.command, got, x.candidate)
		}
		wantRuns(t, x.command, b, "-")
	}
	if d.Waits() != 0 || len(entries(t, d)) != 0 {
		t.Error("what is edited was written")
	}
}

// P18.1, P2: what can't be changes nothing.
func TestEditsThatCannotBe(t *testing.T) {
	_, b := begun(t, 200, ids(1)+";set interface e cost 5;set area 0.0.0.0 cost 3")
	for _, s := range []string{
		"delete interface f", "delete interface e dead", "delete area 0.0.0.0 type", "delete area 0.0.0.1",
		"delete interface 0.0.0.0", "delete interface E",
	} {
		refused(t, b, s, "", api.ErrNone)
	}
	want(t, b, "delete router-id", "ok", api.OK)
	refused(t, b, "delete router-id", "", api.ErrNone)
	for _, s := range []string{
		"", " ", "#", "set", "set router-id", "set router-id 1.1.1", "set router-id 1.1.1.256", "set interface e cost 0",
		"set interface e cost 65536", "set interface e/1 cost 5", "set area x cost 5", "set cost 5", "set interface e cost 5 5",
		"delete", "delete interface", "delete interface e what", "delete cost", "show all", "show;", "commit 1", "commit now", "confirm 1",
		"check it", "compare 1", "commit-confirmed", "commit-confirmed 0", "commit-confirmed 65536", "commit-confirmed 01", "commit-confirmed -1",
		"rollback", "rollback 6", "rollback -1", "rollback 00", "rollback 1 2", "Show", "commit\x00", "q", strings.Repeat("a", 32),
	} {
		refused(t, b, s, "", api.ErrForm)
	}
}

// P18.1: a candidate has 64 lines, and not one more.
func TestFullCandidate(t *testing.T) {
	_, b := begun(t, 200, "")
	for i := range api.MaxLines {
		want(t, b, fmt.Sprintf("set interface e%02d cost 5", i), "ok", api.OK)
	}
	refused(t, b, "set interface e99 cost 5", "", api.ErrFull)
	refused(t, b, "set router-id 1.1.1.1", "", api.ErrFull)
	want(t, b, "set interface e07 cost 6", "ok", api.OK)
	want(t, b, "delete interface e00", "ok", api.OK)
	want(t, b, "set interface e99 cost 5", "ok", api.OK)
	refused(t, b, "set router-id 1.1.1.1", "", api.ErrFull)
}

// P18.1, P7: what is shown is the candidate, and is read as it.
func TestShow(t *testing.T) {
	_, b := begun(t, 200, "set interface e cost 5;set area 0.0.0.1 type stub;set interface e area 0.0.0.1;set router-id 1.1.1.1")
	want(t, b, "show", "router-id 1.1.1.1;\narea 0.0.0.1 {\n  type stub;\n}\ninterface e {\n  area 0.0.0.1;\n  cost 5;\n}\n", api.OK)
	told, _, _ := b.Do("show")
	if c, e := parse.Text(told); e != api.OK || line(c) != line(b.Candidate()) || line(c) == "-" {
		t.Errorf("%q is read as %v, error %d", told, c, e)
	}
}

// P18.1: compared are the running one, and the candidate.
func TestCompare(t *testing.T) {
	_, b := begun(t, 200, ids(1)+";"+face)
	want(t, b, "compare", "+ interface e address 10.0.0.1/24\n+ interface e area 0.0.0.0\n", api.OK)
	dos(t, b, "commit")
	want(t, b, "compare", "", api.OK)
	dos(t, b, "set interface e area 0.0.0.2;delete router-id;set interface e cost 3")
	want(t, b, "compare", "- router-id 0.0.0.1\n- interface e area 0.0.0.0\n+ interface e area 0.0.0.2\n+ interface e cost 3\n", api.OK)
	dos(t, b, "rollback 0")
	want(t, b, "compare", "", api.OK)
	dos(t, b, "rollback 1")
	want(t, b, "compare", "- interface e address 10.0.0.1/24\n- interface e area 0.0.0.0\n", api.OK)
}

// P18.1: what is wrong with a candidate is told, and lets it not run.
func TestCheckAndCommit(t *testing.T) {
	d, b := begun(t, 200, "")
	want(t, b, "check", "ok", api.OK)
	want(t, b, "set interface e cost 5", "ok", api.OK)
	for _, x := range []struct{ edit, wrong string }{
		{"set interface e cost 6", "norouter\nnoarea e\nnoaddress e\n"},
		{"set router-id 0.0.0.0", "norouter\nnoarea e\nnoaddress e\n"},
		{"set router-id 1.1.1.1", "noarea e\nnoaddress e\n"},
		{"set interface e area 0.0.0.1", "noaddress e\n"},
		{"set area 0.0.0.0 type stub", "noaddress e\nbackbone 0.0.0.0\nunused 0.0.0.0\n"},
		{"set interface e address 10.0.0.1/24", "backbone 0.0.0.0\nunused 0.0.0.0\n"},
		{"delete area 0.0.0.0 type", "ok"},
		{"set interface e dead 10", "baddead e\n"},
	} {
		want(t, b, x.edit, "ok", api.OK)
		before := stands(b)
		want(t, b, "check", x.wrong, api.OK)
		if stands(b) != before {
			t.Error("check changes what is there")
		}
		if x.wrong == "ok" {
			want(t, b, "commit", "ok", api.OK)
			wantRuns(t, x.edit, b, "router-id 1.1.1.1,e address 10.0.0.1/24,e area 0.0.0.1,e cost 6 | -")
			continue
		}
		written := len(entries(t, d))
		refused(t, b, "commit", x.wrong, api.ErrRule)
		refused(t, b, "commit-confirmed 3", x.wrong, api.ErrRule)
		if len(entries(t, d)) != written {
			t.Error("what is wrong was written")
		}
	}
	// what is wrong is told of the candidate alone
	want(t, b, "rollback 0", "ok", api.OK)
	want(t, b, "check", "ok", api.OK)
}

// P18.1, P2: what runs, and 5 of those that ran ahead of it, the newest first, also if one runs again.
func TestArchive(t *testing.T) {
	_, b := begun(t, 200, "")
	ran := "-"
	for n := 1; n < 9; n++ {
		dos(t, b, ids(n))
		ran = line(id(n)) + " | " + ran
		l := strings.Split(ran, " | ")
		wantRuns(t, fmt.Sprint("commit ", n), b, strings.Join(l[:min(len(l), 6)], " | "))
	}
	dos(t, b, "commit")
	wantRuns(t, "commit again", b, "router-id 0.0.0.8 | router-id 0.0.0.8 | router-id 0.0.0.7 | router-id 0.0.0.6 | router-id 0.0.0.5 | router-id 0.0.0.4")
	dos(t, b, "delete router-id;commit")
	wantRuns(t, "commit of nothing", b, "- | router-id 0.0.0.8 | router-id 0.0.0.8 | router-id 0.0.0.7 | router-id 0.0.0.6 | router-id 0.0.0.5")
	for _, n := range []int{-1, 6, 7, math.MinInt, math.MaxInt} {
		if c, e := b.Archive(n); c != nil || e != api.ErrNone {
			t.Errorf("Archive(%d): %v, error %d", n, c, e)
		}
	}
}

// P18.1, P2: a rollback is of the candidate alone, to one of as many as there are.
func TestRollback(t *testing.T) {
	_, b := begun(t, 200, "set router-id 9.9.9.9")
	refused(t, b, "rollback 1", "", api.ErrNone)
	want(t, b, "rollback 0", "ok", api.OK)
	want(t, b, "show", "", api.OK)
	for n := 1; n < 8; n++ {
		dos(t, b, ids(n))
		ran := runs(b)
		for k := range 6 {
			command := fmt.Sprint("rollback ", k)
			if k > n {
				refused(t, b, command, "", api.ErrNone)
				continue
			}
			want(t, b, command, "ok", api.OK)
			told := ""
			if k < n {
				told = fmt.Sprintf("router-id 0.0.0.%d;\n", n-k)
			}
			want(t, b, "show", told, api.OK)
			wantRuns(t, command, b, ran)
		}
	}
	dos(t, b, "rollback 3;commit")
	wantRuns(t, "commit", b, "router-id 0.0.0.4 | router-id 0.0.0.7 | router-id 0.0.0.6 | router-id 0.0.0.5 | router-id 0.0.0.4 | router-id 0.0.0.3")
}

// P18.1, P1: a nil Box, and one that nothing made.
func TestNoBox(t *testing.T) {
	for _, b := range []*box.Box{nil, {}} {
		for _, s := range []string{"show", "set router-id 1.1.1.1", "commit", "commit-confirmed 4", "confirm", "rollback 0", "check", "compare", "what", ""} {
			want(t, b, s, "", api.ErrArg)
		}
		if out, e := b.Tick(); out != nil || e != api.ErrArg {
			t.Error("Tick:", out, e)
		}
		if out, e := b.Take("e", 1, []byte{2}); out != nil || e != api.ErrArg {
			t.Error("Take:", out, e)
		}
		if b.Running() != nil || b.Candidate() != nil || b.Pending() != 0 || b.Engine() != nil {
			t.Error(b.Running(), b.Candidate(), b.Pending(), b.Engine())
		}
	}
	var b *box.Box
	for _, n := range []int{-1, 0, 1, 6} {
		if c, e := b.Archive(n); c != nil || e != api.ErrArg {
			t.Errorf("Archive(%d): %v, error %d", n, c, e)
		}
	}
}

// P18.1: ErrStop of the disk ends a box, and it is as it stood.
func TestStop(t *testing.T) {
	const gone = "router-id 2.2.2.2 | router-id 0.0.0.1 | -"
	for _, x := range []struct {
		ahead, command string
		ticks          int
		opened         string
	}{
		{"set router-id 2.2.2.2", "commit", 0, "-"},
		{"set router-id 2.2.2.2", "commit-confirmed 4", 0, "-"},
		{"set router-id 2.2.2.2;commit-confirmed 4", "confirm", 0, gone},
		{"set router-id 2.2.2.2;commit-confirmed 4;set router-id 3.3.3.3", "commit", 2, gone},
		{"set router-id 2.2.2.2;commit-confirmed 4;set router-id 3.3.3.3", "", 3, gone},
	} {
		for steps := range 2 {
			d, b := begun(t, 200, ids(1)+";"+x.ahead)
			ticks(t, b, x.ticks)
			before := stands(b)
			d.Arm(steps)
			if x.command != "" {
				want(t, b, x.command, "", api.ErrStop)
			} else if out, e := b.Tick(); len(out) > 0 || e != api.ErrStop {
				t.Error("Tick:", out, e)
			}
			for range 2 {
				for _, s := range []string{"show", "set router-id 4.4.4.4", "commit", "confirm", "rollback 0", "check", "compare"} {
					want(t, b, s, "", api.ErrStop)
				}
				if out, e := b.Tick(); len(out) > 0 || e != api.ErrStop {
					t.Error("Tick:", out, e)
				}
				if out, e := b.Take("e", 1, nil); len(out) > 0 || e != api.ErrStop {
					t.Error("Take:", out, e)
				}
				if after := stands(b); after != before {
					t.Errorf("%s: %s, was %s", x.command, after, before)
				}
				// power that comes again begins no box again
				d.Crash(nil)
			}
			wantRuns(t, "Open", opened(t, d), "router-id 0.0.0.1 | "+x.opened)
		}
	}
}
