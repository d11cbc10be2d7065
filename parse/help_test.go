package parse_test

import (
	"math/rand"
	"slices"
	"strconv"
	"testing"

	"waystone/api"
	"waystone/conf"
	"waystone/parse"
)

func top(value string) conf.Line { return conf.Line{Head: api.Top, Leaf: "router-id", Value: value} }

func area(name, leaf, value string) conf.Line {
	return conf.Line{Head: api.Area, Name: name, Leaf: leaf, Value: value}
}

func face(name, leaf, value string) conf.Line {
	return conf.Line{Head: api.Interface, Name: name, Leaf: leaf, Value: value}
}

func set(l conf.Line) parse.Command { return parse.Command{What: parse.Set, Line: l} }

func del(l conf.Line) parse.Command { return parse.Command{What: parse.Delete, Line: l} }

func wantCommand(t *testing.T, text string, want parse.Command) {
	t.Helper()
	if c, e := parse.Read(text); e != api.OK || c != want {
		t.Errorf("%q: error %d, %v, want %v", text, e, c, want)
	}
}

func wantNoCommand(t *testing.T, text string) {
	t.Helper()
	if c, e := parse.Read(text); e != api.ErrForm || c != (parse.Command{}) {
		t.Errorf("%q: error %d, %v", text, e, c)
	}
}

func wantConf(t *testing.T, text string, want ...conf.Line) {
	t.Helper()
	if c, e := parse.Text(text); e != api.OK || !slices.Equal(c, want) {
		t.Errorf("%q: error %d, %v, want %v", text, e, c, want)
	}
}

func wantNoConf(t *testing.T, text string, want api.Errno) {
	t.Helper()
	if c, e := parse.Text(text); e != want || len(c) != 0 {
		t.Errorf("%q: error %d, %v, want error %d", text, e, c, want)
	}
}

// costs is a configuration of so many lines, each of an interface of its own.
func costs(n int) conf.Conf {
	var c conf.Conf
	for i := range n {
		c = append(c, face("i"+strconv.Itoa(100+i), "cost", strconv.Itoa(1+i)))
	}
	return c
}

// anyLine is one of not too many lines that are right.
func anyLine(r *rand.Rand) conf.Line {
	some := func(l ...string) string { return l[r.Intn(len(l))] }
	number := strconv.Itoa(1 + r.Intn(255))
	switch r.Intn(6) {
	case 0:
		return top("1.2.3." + number)
	case 1:
		return area("0.0.0."+some("0", "1", "10", "2"), "type", some("normal", "stub", "nssa"))
	case 2:
		return area("0.0.0."+some("0", "1", "10", "2"), "cost", number)
	case 3:
		return face(some("a", "area", "interface", "set", "9"), "area", "10.0.0."+number)
	case 4:
		return face(some("a", "area", "interface", "set", "9"), "auth", some("x", "area", "set", "a/b", "-"))
	}
	return face(some("a", "area", "interface", "set", "9"), some("cost", "dead", "hello", "priority", "retransmit"), number)
}
