package shell_test

import (
	"fmt"
	"math/rand"
	"strings"
	"testing"

	"waystone/shell"
)

// lines are lines as a text, each with its line end.
func lines(l ...string) string {
	var b strings.Builder
	for _, s := range l {
		b.WriteString(s + "\n")
	}
	return b.String()
}

// wantTold asks for what is told of a text.
func wantTold(t *testing.T, text, want string) {
	t.Helper()
	if got := shell.Run(text); got != want {
		t.Errorf("%q:\n%q\nwant\n%q", text, got, want)
	}
}

// wantBehind asks for what is told of lines behind others, of which nothing is asked.
func wantBehind(t *testing.T, ahead, text, want string) {
	t.Helper()
	told := shell.Run(ahead)
	got, begins := strings.CutPrefix(shell.Run(ahead+text), told)
	if !begins {
		t.Fatalf("%q: what was told ahead of it is another thing", text)
	}
	if got != want {
		t.Errorf("%q:\n%s\nwant\n%s", text, got, want)
	}
}

// steps are lines, parted by "; ", each with what is told of it behind " = " (several lines parted by ", ").
type steps []string

// check asks for what is told of each step, behind lines of which nothing is asked.
func (s steps) check(t *testing.T, ahead string) {
	t.Helper()
	var all, want []string
	for _, x := range s {
		line, told, _ := strings.Cut(x, " = ")
		all = append(all, line)
		want = append(want, strings.Split(told, ", ")...)
	}
	wantBehind(t, ahead, lines(all...), lines(want...))
}

// face are commands for an interface that is like another one's of that name: hello 1, dead 4.
func face(name, address string) []string {
	f := "set interface " + name + " "
	return []string{f + "area 0.0.0.0", f + "address " + address, f + "hello 1", f + "dead 4"}
}

// commands are commands to one of both.
func commands(name string, l ...string) string {
	var b strings.Builder
	for _, s := range l {
		b.WriteString(name + " " + s + "\n")
	}
	return b.String()
}

// router are lines by which a (0) or b (1) runs with interfaces, the j-th of them on the network 10.0.j.0/24.
func router(i int, names ...string) string {
	l := []string{fmt.Sprintf("set router-id 0.0.0.%d", i+1)}
	for j, n := range names {
		l = append(l, face(n, fmt.Sprintf("10.0.%d.%d/24", j, i+1))...)
	}
	return commands("ab"[i:i+1], append(l, "commit")...)
}

// both are lines by which both run with these interfaces.
func both(names ...string) string {
	return router(0, names...) + router(1, names...)
}

// full are lines by which both are Full on these interfaces.
func full(names ...string) string {
	return both(names...) + "tick 6\n"
}

// seen is what show tells where both have a neighbor on each interface, in that state; an interface without a name takes a place, and has none.
func seen(state int, names ...string) string {
	var l []string
	for i := range 2 {
		for j, n := range names {
			if n == "" {
				continue
			}
			l = append(l, fmt.Sprintf("%c %s 10.0.%d.%d %d", "ab"[i], n, j, 2-i, state))
		}
	}
	return strings.Join(l, ", ")
}

func some[T any](r *rand.Rand, l ...T) T { return l[r.Intn(len(l))] }
