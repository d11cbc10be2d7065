package shell_test

import (
	"fmt"
	"strings"
	"testing"

	"waystone/api"
	"waystone/conf"
	"waystone/parse"
	"waystone/shell"
)

// P19.1: the example.
func TestExample(t *testing.T) {
	wantTold(t, "a set router-id 1.1.1.1\na commit\na show", "ok\nok\nrouter-id 1.1.1.1;\n")
}

// P19.1: a text is parted by line ends; a last line without any sign isn't one.
func TestLines(t *testing.T) {
	for _, x := range []struct{ text, told string }{
		{"", ""},
		{"\n", "?\n"},
		{"\n\n\n", "?\n?\n?\n"},
		{" ", "?\n"},
		{" \n", "?\n"},
		{"\n ", "?\n?\n"},
		{"show", "nobody\n"},
		{"show\n", "nobody\n"},
		{"show\n\n", "nobody\n?\n"},
		{"\nshow", "?\nnobody\n"},
		{"show\nshow", "nobody\nnobody\n"},
		{"show\r\nshow", "?\nnobody\n"},
		{"show\rshow", "?\n"},
		{"show\vshow\fshow\u2028show\u0085show", "?\n"},
		{"a show", "\n"},
		{"a show\n", "\n"},
		{"a show\n\nb show\n", "\n?\n\n"},
		{"a check\nb check\na compare\ntick 1\ncrash a\ncrash b\n", "ok\nok\n\nok\nok\nok\n"},
	} {
		wantTold(t, x.text, x.told)
	}
}

// P19.1, P2: each other line is told "?", and changes nothing.
func TestOtherLines(t *testing.T) {
	ahead := full("e") + "a set interface e cost 5\na commit-confirmed 1\na set interface e cost 6\n"
	behind := lines("show", "a show", "b show", "a compare", "tick 1", "a compare", "show")
	want := strings.TrimPrefix(shell.Run(ahead+behind), shell.Run(ahead))
	for _, s := range []string{
		"", " ", "a", "b", "a ", "b ", " a show", "A show", "c show", "ab show", "aa show", "a\tshow", "a\x00show", "a;show", "a.show",
		"tick", "tick ", "tick 0", "tick 00", "tick 000", "tick 1000", "tick 01", "tick 001", "tick -1", "tick +1", "tick 1 ", "tick  1", " tick 1", "tick 1 1",
		"tick\t1", "tick 1a", "tick 1.0", "tick 0x1", "tick a", "tick 999999999", "tick 1000000000", "tick 4294967297", "tick 18446744073709551617",
		"tick " + strings.Repeat("1", 1000), "tick \u0661", "Tick 1", "tick1", "ticks 1",
		"crash", "crash ", "crash c", "crash A", "crash  a", "crash a ", "crash a b", "crash ab", "crash aa", " crash a", "crash\ta", "crash 1", "Crash a", "crasha",
		"show ", " show", "show a", "show b", "Show", "show show", "sho", "shows", "show\x00", "show\r",
		"commit", "check", "set router-id 1.1.1.1", "nobody", "ok", "?", "#", "# a show", "error 3", "\x00", "\xff", "\u00e9", "a\u00a0show", "run a show", "a\r",
		strings.Repeat("x", 100000), strings.Repeat(" ", 1000),
	} {
		wantBehind(t, ahead+s+"\n", behind, want)
		wantBehind(t, ahead, s+"\n", "?\n")
	}
}

// P19.1: COMMAND is all behind "a " or "b ", as it is, and each error is told by its number, in a line ahead.
func TestCommands(t *testing.T) {
	for _, who := range []string{"a ", "b "} {
		for _, x := range []struct{ command, told string }{
			{" ", "error 3\n"},
			{"   ", "error 3\n"},
			{"x", "error 3\n"},
			{"a", "error 3\n"},
			{"a show", "error 3\n"},
			{"show ", "\n"},
			{"  show", "\n"},
			{"\tshow\t# all of it", "\n"},
			{"show\r", "error 3\n"},
			{"show\x00", "error 3\n"},
			{"tick 1", "error 3\n"},
			{"crash a", "error 3\n"},
			{"compare", "\n"},
			{"check", "ok\n"},
			{"commit", "ok\n"},
			{"confirm", "error 11\n"},
			{"commit-confirmed 0", "error 3\n"},
			{"commit-confirmed 65536", "error 3\n"},
			{"commit-confirmed 65535", "ok\n"},
			{"rollback 0", "ok\n"},
			{"rollback 1", "error 6\n"},
			{"rollback 6", "error 3\n"},
			{"delete router-id", "error 6\n"},
			{"delete interface e", "error 6\n"},
			{"set router-id 1.1.1.256", "error 3\n"},
			{"set router-id 1.1.1.1", "ok\n"},
			{"set interface e cost 5", "ok\n"},
			{"set interface " + strings.Repeat("e", api.MaxWord) + " cost 5", "ok\n"},
			{"set interface " + strings.Repeat("e", api.MaxWord+1) + " cost 5", "error 3\n"},
			{"set area 0.0.0.0 type stub", "ok\n"},
		} {
			wantTold(t, who+x.command, x.told)
		}
	}
}

// P19.1: what is told of several lines has one line end behind each, and none more.
func TestLinesOfAnAnswer(t *testing.T) {
	wantTold(t, lines("a set interface e cost 5", "a set area 0.0.0.1 type stub", "a show", "a compare", "a check", "a commit", "a commit-confirmed 5"),
		lines("ok", "ok",
			"area 0.0.0.1 {", "  type stub;", "}", "interface e {", "  cost 5;", "}",
			"+ area 0.0.0.1 type stub", "+ interface e cost 5",
			"norouter", "noarea e", "noaddress e", "unused 0.0.0.1",
			"error 7", "norouter", "noarea e", "noaddress e", "unused 0.0.0.1",
			"error 7", "norouter", "noarea e", "noaddress e", "unused 0.0.0.1"))
}

// P19.1: there are two routers, and what is told to one isn't told to the other.
func TestTwo(t *testing.T) {
	steps{
		"a set router-id 1.1.1.1 = ok", "b set router-id 2.2.2.2 = ok", "a compare = + router-id 1.1.1.1", "b compare = + router-id 2.2.2.2",
		"a commit = ok", "a compare = ", "b compare = + router-id 2.2.2.2", "a rollback 1 = ok", "b rollback 1 = error 6",
		"a show = ", "b show = router-id 2.2.2.2;", "crash a = ok", "a show = router-id 1.1.1.1;", "b show = router-id 2.2.2.2;",
		"crash b = ok", "b show = ", "a show = router-id 1.1.1.1;",
	}.check(t, "")
}

// P19.1: a candidate has 64 lines, and not one more.
func TestFullCandidate(t *testing.T) {
	var ahead []string
	for i := range api.MaxLines {
		ahead = append(ahead, fmt.Sprintf("set interface e%02d cost 5", i))
	}
	steps{
		"a set router-id 1.1.1.1 = error 5", "a set interface e00 cost 6 = ok", "a set interface e00 dead 6 = error 5", "a delete interface e63 = ok",
		"a set router-id 1.1.1.1 = ok", "b set router-id 1.1.1.1 = ok",
	}.check(t, commands("a", ahead...))
}

// P2: what can't be changes nothing.
func TestRefused(t *testing.T) {
	ahead := both("e") + "a set interface e cost 7\n"
	s := steps{}
	for _, x := range []string{"set interface e cost 0 = error 3", "delete interface f = error 6", "rollback 3 = error 6", "confirm = error 11", "what = error 3", "set interface f cost 5 = ok", "commit = error 7, noarea f, noaddress f", "commit-confirmed 3 = error 7, noarea f, noaddress f", "delete interface f = ok"} {
		s = append(s, "a "+x)
		if !strings.Contains(x, " f") {
			s = append(s, "a compare = + interface e cost 7")
		}
	}
	append(s, "tick 5 = ok", "a compare = + interface e cost 7", "a rollback 1 = ok", "a show = ").check(t, ahead)
}

// P7: what is shown is read as what was set.
func TestShown(t *testing.T) {
	var want conf.Conf
	var ahead []string
	for _, s := range append(face("e", "10.0.0.1/24"), "set router-id 1.1.1.1", "set interface e auth a-b_c/.", "set area 0.0.0.0 cost 65535", "set interface d.1 network point-to-point") {
		ahead = append(ahead, s)
		c, _ := parse.Read(s)
		want, _ = conf.Set(want, c.Line)
	}
	text := commands("a", ahead...)
	got, e := parse.Text(strings.TrimPrefix(shell.Run(text+"a show"), shell.Run(text)))
	if e != api.OK || !conf.Same(got, want) || len(got) != len(ahead) {
		t.Errorf("%v, error %d, want %v", got, e, want)
	}
}

// P19.1, P3: behind a crash there is what was committed last; what was edited is not, and a commit that wasn't confirmed has gone back.
func TestCrash(t *testing.T) {
	for _, who := range []string{"a", "b"} {
		s := steps{}
		for _, x := range []string{
			"crash = ok", "show = ", "set router-id 1.1.1.1 = ok", "crash = ok", "show = ", "rollback 1 = error 6",
			"set router-id 1.1.1.1 = ok", "commit = ok", "set router-id 2.2.2.2 = ok", "crash = ok", "show = router-id 1.1.1.1;",
			"set router-id 2.2.2.2 = ok", "commit-confirmed 9 = ok", "crash = ok", "show = router-id 1.1.1.1;", "confirm = error 11", "rollback 1 = ok", "show = router-id 2.2.2.2;",
			"commit-confirmed 9 = ok", "confirm = ok", "crash = ok", "show = router-id 2.2.2.2;", "rollback 1 = ok", "show = router-id 1.1.1.1;",
			"commit-confirmed 9 = ok", "delete router-id = ok", "commit = ok", "crash = ok", "crash = ok", "show = ", "rollback 1 = ok", "show = router-id 1.1.1.1;",
		} {
			if strings.HasPrefix(x, "crash") {
				s = append(s, "crash "+who+" = ok")
			} else {
				s = append(s, who+" "+x)
			}
		}
		s.check(t, "")
	}
}

// P6: what waits to be confirmed goes back at its tick just, or never.
func TestWaits(t *testing.T) {
	for _, who := range []string{"a", "b"} {
		for _, n := range []int{1, 2, 3, 40, 999} {
			begins := commands(who, "set router-id 1.1.1.1", "commit", "set router-id 2.2.2.2", fmt.Sprint("commit-confirmed ", n))
			stays, back := who+" compare = ", who+" compare = - router-id 1.1.1.1, + router-id 2.2.2.2"
			if n > 1 {
				steps{fmt.Sprint("tick ", n-1, " = ok"), stays, "tick 1 = ok", back, who + " confirm = error 11", "tick 999 = ok", back}.check(t, begins)
				steps{fmt.Sprint("tick ", n-1, " = ok"), who + " confirm = ok", "tick 999 = ok", stays, who + " confirm = error 11"}.check(t, begins)
				steps{fmt.Sprint("tick ", n-1, " = ok"), who + " commit = ok", "tick 999 = ok", stays}.check(t, begins)
			}
			steps{fmt.Sprint("tick ", n, " = ok"), back}.check(t, begins)
			steps{who + " confirm = ok", "tick 999 = ok", "tick 2 = ok", stays}.check(t, begins)
		}
	}
}

// P19.1: tick N is N ticks, and not one more or less.
func TestTicks(t *testing.T) {
	begins := commands("b", "set router-id 1.1.1.1", "commit-confirmed 65535")
	stays, back := "b compare = ", "b compare = + router-id 1.1.1.1"
	var s steps
	for range 65 {
		s = append(s, "tick 999 = ok")
	}
	append(s, "tick 599 = ok", stays, "tick 1 = ok", back).check(t, begins)
	append(s, "tick 600 = ok", back).check(t, begins)
}
