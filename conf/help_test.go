package conf_test

import (
	"math/rand"
	"slices"
	"strconv"
	"testing"

	"waystone/api"
	"waystone/conf"
)

func top(value string) conf.Line { return conf.Line{Head: api.Top, Leaf: "router-id", Value: value} }

func area(name, leaf, value string) conf.Line {
	return conf.Line{Head: api.Area, Name: name, Leaf: leaf, Value: value}
}

func face(name, leaf, value string) conf.Line {
	return conf.Line{Head: api.Interface, Name: name, Leaf: leaf, Value: value}
}

// small is a configuration of each head, of several names.
func small() conf.Conf {
	return conf.Conf{
		top("1.2.3.4"),
		area("0.0.0.0", "cost", "7"),
		area("0.0.0.1", "type", "stub"),
		face("eth0", "address", "10.0.0.1/24"),
		face("eth0", "cost", "5"),
		face("eth1", "area", "0.0.0.1"),
	}
}

// costs is a configuration of so many lines, each of an interface of its own.
func costs(n int) conf.Conf {
	var c conf.Conf
	for i := range n {
		c = append(c, face("i"+strconv.Itoa(100+i), "cost", strconv.Itoa(1+i)))
	}
	return c
}

// wrongs are lists of lines that are no configuration, each for a cause of its own.
func wrongs() map[string]conf.Conf {
	wrong := func(l ...conf.Line) conf.Conf { return l }
	return map[string]conf.Conf{
		"65 lines":                 costs(65),
		"a line twice":             wrong(top("1.2.3.4"), top("1.2.3.4")),
		"a leaf twice":             wrong(face("e", "cost", "1"), face("e", "cost", "2")),
		"heads fall":               wrong(area("0.0.0.0", "cost", "7"), top("1.2.3.4")),
		"names fall":               wrong(face("f", "cost", "1"), face("e", "cost", "1")),
		"leaves fall":              wrong(face("e", "dead", "1"), face("e", "cost", "1")),
		"the last falls":           append(small(), face("eth0", "dead", "9")),
		"Top has a name":           wrong(conf.Line{Head: api.Top, Name: "x", Leaf: "router-id", Value: "1.2.3.4"}),
		"an area's name":           wrong(area("zero", "cost", "7")),
		"an area without a name":   wrong(area("", "cost", "7")),
		"an interface's name":      wrong(face("e/0", "cost", "7")),
		"an interface without one": wrong(face("", "cost", "7")),
		"a leaf of another head":   wrong(area("0.0.0.0", "dead", "7")),
		"no leaf":                  wrong(face("e", "", "7")),
		"no row's leaf":            wrong(face("e", "mtu", "7")),
		"no value":                 wrong(face("e", "cost", "")),
		"a wrong value":            wrong(face("e", "cost", "0")),
		"the last value is wrong":  append(small(), face("eth1", "cost", "05")),
		"no head":                  wrong(conf.Line{Head: 3, Name: "e", Leaf: "cost", Value: "7"}),
		"a head below 0":           wrong(conf.Line{Head: -1, Leaf: "router-id", Value: "1.2.3.4"}),
		"a head of a great number": wrong(conf.Line{Head: 256, Leaf: "router-id", Value: "1.2.3.4"}),
	}
}

// anyLine is one of not too many lines that are right.
func anyLine(r *rand.Rand) conf.Line {
	some := func(l ...string) string { return l[r.Intn(len(l))] }
	number := strconv.Itoa(1 + r.Intn(3))
	switch r.Intn(8) {
	case 0:
		return top("1.2.3." + number)
	case 1:
		return area("0.0.0."+some("0", "1", "10", "2"), "type", some("normal", "stub", "nssa"))
	case 2:
		return area("0.0.0."+some("0", "1", "10", "2"), "cost", number)
	case 3:
		return face(some("a", "b", "B", "a.b"), "address", "10.0."+number+".1/24")
	case 4:
		return face(some("a", "b", "B", "a.b"), "network", some("broadcast", "point-to-point"))
	case 5:
		return face(some("a", "b", "B", "a.b"), "auth", some("x", "key", "a/b"))
	}
	return face(some("a", "b", "B", "a.b"), some("cost", "dead", "hello", "priority", "retransmit"), number)
}

// anyConf is a configuration of at most so many lines, made without the program.
func anyConf(r *rand.Rand, most int) conf.Conf {
	lines := map[conf.Line]string{}
	for range r.Intn(most + 1) {
		l := anyLine(r)
		value := l.Value
		l.Value = ""
		lines[l] = value
	}
	var c conf.Conf
	for l, value := range lines {
		l.Value = value
		c = append(c, l)
	}
	slices.SortFunc(c, func(a, b conf.Line) int { return slices.Compare(key(a), key(b)) })
	return c
}

func key(l conf.Line) []string { return []string{strconv.Itoa(l.Head), l.Name, l.Leaf} }

// roomy is the same lines with room behind them, in which a stray write would be seen.
func roomy(c conf.Conf) conf.Conf {
	spare := conf.Line{Head: 77, Name: "spare"}
	return append(append(conf.Conf{}, c...), spare, spare)[:len(c)]
}

func wantUntouched(t *testing.T, what string, got, want conf.Conf) {
	t.Helper()
	spare := conf.Line{Head: 77, Name: "spare"}
	if !slices.Equal(got[:len(got)+2], append(append(conf.Conf{}, want...), spare, spare)) {
		t.Errorf("%s: what was handed in is changed: %v", what, got[:len(got)+2])
	}
}

func wantConf(t *testing.T, what string, got conf.Conf, e api.Errno, want conf.Conf) {
	t.Helper()
	if e != api.OK || !slices.Equal(got, want) {
		t.Errorf("%s: error %d, %v, want %v", what, e, got, want)
	}
}

func wantError(t *testing.T, what string, got conf.Conf, e, want api.Errno) {
	t.Helper()
	if e != want || len(got) != 0 {
		t.Errorf("%s: error %d, %v, want error %d", what, e, got, want)
	}
}
