package shell_test

import (
	"fmt"
	"strings"
	"testing"

	"waystone/shell"
)

// P19.1, P4: two that hear each other greet, tick by tick, a ahead of b, and are Full when both have waited.
func TestGreeting(t *testing.T) {
	for _, ahead := range []string{both("e"), router(1, "e") + router(0, "e")} {
		steps{
			"show = nobody",
			"tick 1 = ok", "show = a e 10.0.0.2 2, b e 10.0.0.1 1",
			"tick 1 = ok", "show = " + seen(2, "e"),
			"tick 1 = ok", "show = " + seen(2, "e"),
			"tick 1 = ok", "show = " + seen(6, "e"),
			"tick 999 = ok", "show = " + seen(6, "e"),
		}.check(t, ahead)
	}
	steps{"tick 3 = ok", "show = " + seen(2, "e"), "tick 1 = ok", "show = " + seen(6, "e")}.check(t, both("e"))
	steps{"tick 4 = ok", "show = " + seen(6, "e")}.check(t, both("e"))
}

// P19.1: all neighbors are told, those of a first, by interfaces, then by addresses.
func TestShow(t *testing.T) {
	steps{"tick 6 = ok", "show = " + seen(6, "e", "f", "g")}.check(t, router(1, "e", "f", "g")+router(0, "e", "f", "g"))
	// of another address b is another neighbor; the one that it was is there till nobody was heard for 4 ticks
	for address, told := range map[string]string{
		"10.0.0.0":   "a e 10.0.0.0 3, a e 10.0.0.2 6, b e 10.0.0.1 2",
		"10.0.0.3":   "a e 10.0.0.2 6, a e 10.0.0.3 3, b e 10.0.0.1 2",
		"10.0.0.255": "a e 10.0.0.2 6, a e 10.0.0.255 3, b e 10.0.0.1 2",
	} {
		steps{"show = a e 10.0.0.2 6", "tick 1 = ok", "show = " + told, "tick 9 = ok", "show = a e " + address + " 6, b e 10.0.0.1 6"}.
			check(t, full("e")+commands("b", "set interface e address "+address+"/24", "commit"))
	}
	// b has neighbors, and a has none
	steps{"show = b e 10.0.0.1 6"}.check(t, full("e")+"crash a\n")
	steps{"show = b e 10.0.0.1 6, b f 10.0.1.1 6"}.check(t, full("e", "f")+"crash a\n")
	steps{"show = nobody"}.check(t, full("e", "f")+"crash a\ncrash b\n")
}

// P19.1: what is sent comes to the interface of the same name, and to no other one.
func TestNames(t *testing.T) {
	for _, x := range []struct {
		a, b []string
		seen string
	}{
		{nil, nil, "nobody"},
		{[]string{"e"}, nil, "nobody"},
		{nil, []string{"e"}, "nobody"},
		{[]string{"e"}, []string{"f"}, "nobody"},
		{[]string{"e"}, []string{"E"}, "nobody"},
		{[]string{"e"}, []string{"e.0"}, "nobody"},
		{[]string{"d", "f"}, []string{"e", "f"}, seen(6, "", "f")},
		{[]string{"d", "e", "f"}, []string{"d", "g", "f"}, seen(6, "d", "", "f")},
		{[]string{"e"}, []string{"e", "f", "g"}, seen(6, "e")},
	} {
		steps{"tick 20 = ok", "show = " + x.seen}.check(t, router(0, x.a...)+router(1, x.b...))
	}
}

// P19.1, P4: what is refused isn't heard, and doesn't stand in the way of what is sent behind it, from d or from another interface.
func TestUnlike(t *testing.T) {
	like, unlike, none := seen(6, "d", "e"), seen(6, "", "e"), "nobody"
	for _, x := range []struct{ edit, a, b string }{
		{"set interface d cost 99", like, like},
		{"set interface d retransmit 1", like, like},
		{"set interface d priority 9", like, like},
		{"set area 0.0.0.0 cost 9", like, like},
		{"set interface d hello 2", unlike, unlike},
		{"set interface d dead 5", unlike, unlike},
		{"set interface d auth key", unlike, unlike},
		{"set interface d address 10.0.0.1/25", unlike, unlike},
		{"set interface d address 10.0.0.1/24", like, unlike},
		{"set interface d address 10.0.0.2/24", unlike, like},
		{"set router-id 0.0.0.1", like, none},
		{"set router-id 0.0.0.2", none, like},
	} {
		steps{"tick 20 = ok", "show = " + x.a}.check(t, both("d", "e")+commands("a", x.edit, "commit"))
		steps{"tick 20 = ok", "show = " + x.b}.check(t, both("d", "e")+commands("b", x.edit, "commit"))
	}
	for _, who := range []string{"a", "b"} {
		steps{"tick 20 = ok", "show = " + unlike}.check(t, both("d", "e")+commands(who, "set interface d area 0.0.0.1", "commit"))
	}
}

// P19.1: what a commit sends goes at once, and what is sent by that goes at once too.
func TestAtOnce(t *testing.T) {
	// a is to be Full to whoever it hears, but as long as nobody may speak for the network b isn't
	ahead := both("e") + commands("a", "set interface e network point-to-point", "set interface e priority 0", "commit") +
		commands("b", "set interface e priority 0", "commit")
	waits := "show = a e 10.0.0.2 3, b e 10.0.0.1 2"
	edits := []string{"tick 20 = ok", waits, "b set interface e priority 1 = ok", waits, "b commit = ok"}
	steps(append(edits, "show = "+seen(6, "e"))).check(t, ahead)
	// a has the greater number, so it leads; it has begun already, and begins again by its own ticks alone
	steps(append(edits, "show = "+seen(3, "e"), "tick 5 = ok", "show = "+seen(6, "e"))).check(t, ahead+commands("a", "set router-id 9.9.9.9", "commit"))
	// what goes back begins anew, which is told to a at once, that was Full still
	steps(append(edits, "b set interface e priority 0 = ok", "b commit-confirmed 1 = ok", "show = a e 10.0.0.2 6, b e 10.0.0.1 2", "tick 1 = ok", "show = "+seen(3, "e"))).check(t, ahead)
}

// P19.1: what is sent to an address goes to nobody, if the other one hasn't it by now.
func TestToAnother(t *testing.T) {
	// to the neighbor that b was a tells again and again that it begins
	ahead := both("e") + commands("a", "set interface e network point-to-point", "set interface e priority 0", "set interface e retransmit 1", "commit") +
		commands("b", "set interface e priority 0", "set interface e retransmit 2", "commit") + "tick 20\n" +
		commands("b", "set interface e network point-to-point", "set interface e address 10.0.0.3/24")
	is := "show = a e 10.0.0.2 3, a e 10.0.0.3 6, b e 10.0.0.1 6"
	for _, first := range []string{"", commands("a", "set router-id 9.9.9.9", "commit")} {
		steps{
			"show = a e 10.0.0.2 3, b e 10.0.0.1 2", "b commit = ok", "show = a e 10.0.0.2 3", "tick 2 = ok", is, "tick 1 = ok", is,
			"tick 1 = ok", "show = a e 10.0.0.3 6, b e 10.0.0.1 6",
		}.check(t, strings.Replace(ahead, "tick 20\n", first+"tick 20\n", 1))
	}
}

// P5, P19.1: through such a commit, and through its way back, no neighbor leaves Full.
func TestCommitsThatKeep(t *testing.T) {
	for _, edit := range []string{"interface e cost 77", "interface f retransmit 1", "interface e priority 7", "area 0.0.0.0 cost 9"} {
		for _, who := range []string{"a", "b"} {
			all := "show = " + seen(6, "e", "f")
			s := steps{all, who + " set " + edit + " = ok", who + " commit-confirmed 3 = ok", all}
			for range 6 {
				s = append(s, "tick 1 = ok", all)
			}
			append(s, who+" compare = + "+edit, who+" commit = ok", all, "tick 50 = ok", all).check(t, full("e", "f"))
		}
	}
}

// P5, P19.1: where the plan lets neighbors fall, they do, there alone, and come again when both have changed.
func TestCommitsThatReset(t *testing.T) {
	steps{
		"a set interface e auth key = ok", "a commit = ok", "show = a f 10.0.1.2 6, " + seenOf("b", "e", "f"), "tick 5 = ok", "show = " + seen(6, "", "f"),
		"b set interface e auth key = ok", "b commit = ok", "tick 9 = ok", "show = " + seen(6, "e", "f"),
		"b set router-id 7.7.7.7 = ok", "b commit = ok", "show = " + seenOf("a", "e", "f"), "tick 9 = ok", "show = " + seen(6, "e", "f"),
		"a delete interface f = ok", "a commit = ok", "show = a e 10.0.0.2 6, " + seenOf("b", "e", "f"), "tick 9 = ok", "show = " + seen(6, "e"),
		"a rollback 1 = ok", "a commit = ok", "tick 9 = ok", "show = " + seen(6, "e", "f"),
	}.check(t, full("e", "f"))
}

// seenOf is what show tells of one, where it is Full on each of these interfaces.
func seenOf(name string, faces ...string) string {
	var l []string
	for _, s := range strings.Split(seen(6, faces...), ", ") {
		if strings.HasPrefix(s, name) {
			l = append(l, s)
		}
	}
	return strings.Join(l, ", ")
}

// P19.1, P3, P4: a router that was opened again knows nobody, greets, and is Full again.
func TestCrashOfARouter(t *testing.T) {
	for i, who := range []string{"a", "b"} {
		other := "ba"[i : i+1]
		s := steps{"crash " + who + " = ok", "show = " + seenOf(other, "e", "f"), who + " show = " + strings.Join(shown(i), ", "), "tick 9 = ok", "show = " + seen(6, "e", "f")}
		s.check(t, full("e", "f"))
		// an interface that wasn't confirmed isn't there any more
		s = steps{"crash " + who + " = ok", who + " compare = ", "show = " + seenOf(other, "e", "f"), "tick 9 = ok", "show = " + seen(6, "e", "f")}
		s.check(t, full("e", "f")+commands(who, append(face("g", fmt.Sprintf("10.0.2.%d/24", i+1)), "commit-confirmed 99")...))
	}
}

// shown is what show tells of the configuration that router(i, "e", "f") runs.
func shown(i int) []string {
	l := []string{fmt.Sprintf("router-id 0.0.0.%d;", i+1)}
	for j, n := range []string{"e", "f"} {
		l = append(l, "interface "+n+" {", fmt.Sprintf("  address 10.0.%d.%d/24;", j, i+1), "  area 0.0.0.0;", "  dead 4;", "  hello 1;", "}")
	}
	return l
}

// P1, P19.1: the same text is told the same, whatever was told ahead of it.
func TestAgain(t *testing.T) {
	text := full("e", "f", "g") + lines("show", "crash b", "tick 3", "show", "a set router-id 3.3.3.3", "a commit-confirmed 2", "tick 3", "show")
	want := shell.Run(text)
	for range 3 {
		shell.Run(both("g") + "a commit-confirmed 5\n")
		wantTold(t, text, want)
	}
}
