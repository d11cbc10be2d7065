package shell_test

import (
	"fmt"
	"slices"
	"strings"
	"testing"

	"waystone/api"
	"waystone/conf"
	"waystone/journal"
	"waystone/parse"
)

// great are commands that set 63 lines of 7 interfaces. With the first 14 of them, or more, a configuration may run.
func great() []string {
	var must, may []string
	for j := range 7 {
		name := "set interface " + strings.Repeat(string("fghijkl"[j]), api.MaxWord) + " "
		must = append(must, name+"area 0.0.0.0", name+fmt.Sprintf("address 100.100.%d.100/24", 100+j))
		may = append(may, name+"dead 10000", name+"hello 9999", name+"auth passwort", name+"cost 10000", name+"network point-to-point", name+"retransmit 1000", name+"priority 200")
	}
	return append(must, may...)
}

// sized are commands for a configuration whose entry takes so many sectors: those that are handed in, and as many of great behind them.
func sized(t *testing.T, ahead []string, sectors int) []string {
	t.Helper()
	var c conf.Conf
	l := slices.Concat(ahead, great())
	for n, s := range l {
		x, _ := parse.Read(s)
		c, _ = conf.Set(c, x.Line)
		b, _ := conf.Put(c)
		if n >= len(ahead)+13 && journal.Takes(1+len(b)) == sectors {
			return l[:n+1]
		}
	}
	t.Fatalf("no configuration takes %d sectors", sectors)
	return nil
}

// without are commands by which the interfaces of great aren't there.
func without() []string {
	var l []string
	for j := range 7 {
		l = append(l, "delete interface "+strings.Repeat(string("fghijkl"[j]), api.MaxWord))
	}
	return l
}

// runsSized are lines by which a runs configurations that take so many sectors, one behind the other; the last of them is yet to be committed.
func runsSized(t *testing.T, sectors ...int) string {
	t.Helper()
	ahead := append([]string{"set router-id 0.0.0.1"}, face("e", "10.0.0.1/24")...)
	text := ""
	for i, n := range sectors {
		if i > 0 {
			text += commands("a", append([]string{"commit"}, without()...)...)
		}
		text += commands("a", sized(t, ahead, n)...)
	}
	return text
}

// P19.1: each disk has 512 sectors, so half of it has room for 255: what runs, 5 that ran ahead of it, and the next one.
func TestRoom(t *testing.T) {
	steps{"a commit = ok", "a compare = "}.check(t, runsSized(t, 36, 36, 36, 36, 36, 36, 39))
	steps{"a commit = error 5", "a commit-confirmed 3 = error 5", "b commit = ok"}.check(t, runsSized(t, 36, 36, 36, 36, 36, 36, 40))
	// the sixth one ahead is there no more
	steps{"a commit = ok", "a compare = "}.check(t, runsSized(t, 39, 36, 36, 36, 36, 36, 36, 39))
	steps{"a commit = error 5"}.check(t, runsSized(t, 39, 36, 36, 36, 36, 36, 36, 40))
}

// P19.1, P2: one that has no room to go back lets time stand still there, and there alone, till it is confirmed.
func TestNoWayBack(t *testing.T) {
	ahead := runsSized(t, 43, 43, 43, 43, 43) + "a commit-confirmed 8\n" + router(1, "e")
	steps{
		"tick 7 = ok", "show = " + seen(6, "e"), "tick 1 = ok", "show = " + seen(6, "e"), "tick 4 = ok", "show = a e 10.0.0.2 1",
		"a compare = ", "a confirm = ok", "a confirm = error 11", "tick 9 = ok", "show = " + seen(6, "e"), "a compare = ",
	}.check(t, ahead)
}
