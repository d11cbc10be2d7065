package plan_test

import (
	"math/rand"
	"strings"
	"testing"

	"waystone/api"
	"waystone/conf"
	"waystone/parse"
	"waystone/plan"
)

// read is a configuration as it is written.
func read(t *testing.T, text string) conf.Conf {
	t.Helper()
	c, e := parse.Text(text)
	if e != api.OK {
		t.Fatalf("%q: error %d", text, e)
	}
	return c
}

// edited is a configuration behind commands, parted by ";".
func edited(t *testing.T, c conf.Conf, commands string) conf.Conf {
	t.Helper()
	for _, s := range strings.Split(commands, ";") {
		x, e := parse.Read(s)
		if e == api.OK && x.What == parse.Set {
			c, e = conf.Set(c, x.Line)
		} else if e == api.OK {
			c, e = conf.Delete(c, x.Line.Head, x.Line.Name, x.Line.Leaf)
		}
		if e != api.OK {
			t.Fatalf("%q: error %d", s, e)
		}
	}
	return c
}

// wantPlan asks for just these actions, each as it is written, parted by ", ".
func wantPlan(t *testing.T, what string, a, b conf.Conf, want string) {
	t.Helper()
	l, e := plan.Make(a, b)
	if got := strings.Join(lines(plan.Text(l)), ", "); e != api.OK || got != want {
		t.Errorf("%s: error %d, %q, want %q", what, e, got, want)
	}
}

// wantEdit asks for the actions of what is edited, and for those of the way back.
func wantEdit(t *testing.T, a conf.Conf, commands, want, back string) {
	t.Helper()
	b := edited(t, a, commands)
	wantPlan(t, commands, a, b, want)
	wantPlan(t, commands+", back", b, a, back)
}

// lines are those of a text, each of which must end with a line end.
func lines(text string) []string {
	l := strings.Split(text, "\n")
	return l[:len(l)-1]
}

func some(r *rand.Rand, l ...string) string { return l[r.Intn(len(l))] }

// anyLine is one of a few lines, so that many meet; an interface may be named as an area is.
func anyLine(r *rand.Rand) conf.Line {
	areas := []string{"0.0.0.0", "0.0.0.1", "0.0.0.10"}
	face := conf.Line{Head: api.Interface, Name: some(r, "a", "b", "B", "0.0.0.0", "0.0.0.1")}
	switch k := r.Intn(30); {
	case k == 0:
		return conf.Line{Leaf: "router-id", Value: some(r, "0.0.0.0", "1.1.1.1")}
	case k < 3:
		return conf.Line{Head: api.Area, Name: some(r, areas...), Leaf: "cost", Value: some(r, "1", "2")}
	case k < 6:
		return conf.Line{Head: api.Area, Name: some(r, areas...), Leaf: "type", Value: some(r, "normal", "stub", "nssa")}
	case k < 12:
		face.Leaf, face.Value = "area", some(r, areas...)
	case k < 14:
		face.Leaf, face.Value = "address", some(r, "10.0.0.1/24", "10.0.0.2/24")
	case k < 16:
		face.Leaf, face.Value = "network", some(r, "broadcast", "point-to-point")
	default:
		face.Leaf, face.Value = some(r, "auth", "cost", "dead", "hello", "priority", "retransmit"), some(r, "1", "2", "10")
	}
	return face
}

// anyConf is a configuration, perhaps one that can't be used.
func anyConf(r *rand.Rand) conf.Conf {
	var c conf.Conf
	for range r.Intn(20) {
		c, _ = conf.Set(c, anyLine(r))
	}
	return c
}

// near is a configuration of which few lines are other ones.
func near(r *rand.Rand, c conf.Conf) conf.Conf {
	for range 1 + r.Intn(4) {
		if len(c) > 0 && r.Intn(3) == 0 {
			l := c[r.Intn(len(c))]
			c, _ = conf.Delete(c, l.Head, l.Name, some(r, l.Leaf, l.Leaf, ""))
		} else {
			c, _ = conf.Set(c, anyLine(r))
		}
	}
	return c
}
