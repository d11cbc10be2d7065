package diff_test

import (
	"math/rand"
	"slices"
	"strconv"
	"testing"

	"waystone/api"
	"waystone/conf"
	"waystone/diff"
)

func top(value string) conf.Line { return conf.Line{Head: api.Top, Leaf: "router-id", Value: value} }

func area(name, leaf, value string) conf.Line {
	return conf.Line{Head: api.Area, Name: name, Leaf: leaf, Value: value}
}

func face(name, leaf, value string) conf.Line {
	return conf.Line{Head: api.Interface, Name: name, Leaf: leaf, Value: value}
}

func change(l conf.Line, was, is string) diff.Change { return diff.Change{Line: l, Old: was, New: is} }

func small() conf.Conf {
	return conf.Conf{top("1.2.3.4"), area("0.0.0.1", "type", "stub"), face("eth0", "cost", "5"), face("eth0", "hello", "10"), face("eth1", "area", "0.0.0.1")}
}

// costs is a configuration of so many lines, each of an interface of its own.
func costs(n int) conf.Conf {
	var c conf.Conf
	for i := range n {
		c = append(c, face("i"+strconv.Itoa(100+i), "cost", strconv.Itoa(1+i)))
	}
	return c
}

// wrong is no configuration.
func wrong() conf.Conf { return conf.Conf{face("eth0", "cost", "0")} }

func wantLines(t *testing.T, what string, a, b conf.Conf, want ...diff.Change) {
	t.Helper()
	if l, e := diff.Lines(a, b); e != api.OK || !slices.Equal(l, want) {
		t.Errorf("%s: error %d, %v, want %v", what, e, l, want)
	}
}

func wantApplied(t *testing.T, what string, c conf.Conf, l []diff.Change, want conf.Conf) {
	t.Helper()
	if d, e := diff.Apply(c, l); e != api.OK || !slices.Equal(d, want) {
		t.Errorf("%s: error %d, %v, want %v", what, e, d, want)
	}
}

func wantRefused(t *testing.T, what string, c conf.Conf, want api.Errno, l ...diff.Change) {
	t.Helper()
	if d, e := diff.Apply(c, l); e != want || len(d) != 0 {
		t.Errorf("%s: error %d, %v, want error %d", what, e, d, want)
	}
}

// P7.1
func TestLines(t *testing.T) {
	wantLines(t, "nothing", nil, conf.Conf{})
	wantLines(t, "the same", small(), small())
	wantLines(t, "from nothing", nil, conf.Conf{top("1.2.3.4")}, change(top(""), "", "1.2.3.4"))
	wantLines(t, "to nothing", conf.Conf{top("1.2.3.4")}, nil, change(top(""), "1.2.3.4", ""))
	wantLines(t, "another value", conf.Conf{face("e", "cost", "5")}, conf.Conf{face("e", "cost", "6")}, change(face("e", "cost", ""), "5", "6"))
	wantLines(t, "of any kind", small(), conf.Conf{area("0.0.0.0", "cost", "1"), area("0.0.0.1", "type", "nssa"), face("eth0", "cost", "5"), face("eth2", "dead", "9")},
		change(top(""), "1.2.3.4", ""), change(area("0.0.0.0", "cost", ""), "", "1"), change(area("0.0.0.1", "type", ""), "stub", "nssa"),
		change(face("eth0", "hello", ""), "10", ""), change(face("eth1", "area", ""), "0.0.0.1", ""), change(face("eth2", "dead", ""), "", "9"))
	// what is set isn't what stands for it where it isn't set
	wantLines(t, "a default that is set", nil, conf.Conf{face("e", "cost", "10")}, change(face("e", "cost", ""), "", "10"))
	wantLines(t, "alike names", conf.Conf{area("1.1.1.1", "cost", "1")}, conf.Conf{face("1.1.1.1", "cost", "1")},
		change(area("1.1.1.1", "cost", ""), "1", ""), change(face("1.1.1.1", "cost", ""), "", "1"))
}

// P7.1
func TestWrongConfs(t *testing.T) {
	wrongs := []conf.Conf{wrong(), costs(65), {top("1.2.3.4"), top("1.2.3.4")}, {face("e", "cost", "1"), top("1.2.3.4")}}
	for _, c := range wrongs {
		for _, pair := range [][2]conf.Conf{{c, nil}, {nil, c}, {c, small()}, {small(), c}, {c, c}} {
			if l, e := diff.Lines(pair[0], pair[1]); e != api.ErrArg || len(l) != 0 {
				t.Errorf("Lines: error %d, %v", e, l)
			}
		}
		wantRefused(t, "Apply", c, api.ErrArg)
		wantRefused(t, "Apply", c, api.ErrArg, change(top(""), "9.9.9.9", "1"))
	}
}

// P7.1
func TestText(t *testing.T) {
	for _, a := range []struct {
		l    []diff.Change
		want string
	}{
		{nil, ""},
		{[]diff.Change{change(top(""), "", "1.2.3.4")}, "+ router-id 1.2.3.4\n"},
		{[]diff.Change{change(top(""), "1.2.3.4", "")}, "- router-id 1.2.3.4\n"},
		{[]diff.Change{change(area("0.0.0.1", "type", ""), "stub", "nssa")}, "- area 0.0.0.1 type stub\n+ area 0.0.0.1 type nssa\n"},
		{[]diff.Change{change(face("eth0", "cost", ""), "5", "6"), change(face("eth1", "cost", ""), "", "7")},
			"- interface eth0 cost 5\n+ interface eth0 cost 6\n+ interface eth1 cost 7\n"},
		{[]diff.Change{change(face("eth0", "cost", "left out"), "5", "5"), change(face("eth0", "dead", ""), "", "")}, "- interface eth0 cost 5\n+ interface eth0 cost 5\n"},
		{[]diff.Change{change(conf.Line{Head: 3, Name: "x", Leaf: "leaf"}, "1", "2"), change(conf.Line{Head: -1, Name: "x"}, "", "2"), change(conf.Line{Name: "x", Leaf: "y"}, "", "z")},
			"- leaf 1\n+ leaf 2\n+  2\n+ y z\n"},
		{[]diff.Change{change(area("", "", ""), "1", ""), change(face("", "a\n", ""), "", "b")}, "- area   1\n+ interface  a\n b\n"},
	} {
		if s := diff.Text(a.l); s != a.want {
			t.Errorf("%v: %q, want %q", a.l, s, a.want)
		}
	}
}

// P7.1
func TestApply(t *testing.T) {
	wantApplied(t, "nothing", nil, nil, nil)
	wantApplied(t, "no change", small(), nil, small())
	wantApplied(t, "a new line", nil, []diff.Change{change(top(""), "", "1.2.3.4")}, conf.Conf{top("1.2.3.4")})
	wantApplied(t, "a line's end", conf.Conf{top("1.2.3.4")}, []diff.Change{change(top(""), "1.2.3.4", "")}, nil)
	wantApplied(t, "a name's last line", small(), []diff.Change{change(face("eth1", "area", ""), "0.0.0.1", "")}, small()[:4])
	want := small()
	want[2].Value = "6"
	wantApplied(t, "another value", small(), []diff.Change{change(face("eth0", "cost", ""), "5", "6")}, want)
	wantApplied(t, "a line that has a value", small(), []diff.Change{change(face("eth0", "cost", "99"), "5", "6")}, want)
	wantApplied(t, "one by one", small(), []diff.Change{change(face("eth0", "cost", ""), "5", "7"), change(face("eth0", "cost", ""), "7", ""),
		change(face("eth0", "cost", ""), "", "6"), change(face("eth0", "cost", ""), "6", "6")}, want)
	wantApplied(t, "not set, ahead and behind", small(), []diff.Change{change(face("eth0", "dead", ""), "", ""), change(face("eth0", "", ""), "", ""),
		change(conf.Line{}, "", ""), change(conf.Line{Head: 9, Name: "x", Leaf: "y"}, "", ""), change(face("eth0", "mtu", ""), "", "")}, small())
}

// P7.1
func TestApplyRefuses(t *testing.T) {
	cost, dead := face("eth0", "cost", ""), face("eth0", "dead", "")
	for what, x := range map[string]diff.Change{
		"another value was":         change(cost, "6", "7"),
		"it was set":                change(cost, "", "7"),
		"it was set, and stays":     change(cost, "", ""),
		"it wasn't set":             change(dead, "9", "10"),
		"its default isn't set":     change(dead, "40", "41"),
		"another value goes":        change(cost, "6", ""),
		"what isn't set goes":       change(dead, "40", ""),
		"a whole name goes":         change(face("eth0", "", ""), "5", ""),
		"no line":                   change(conf.Line{Head: 3, Leaf: "cost"}, "5", "6"),
		"another value, and no new": change(cost, "6", "0"),
	} {
		wantRefused(t, what, small(), api.ErrForm, x)
		wantRefused(t, what+", behind a right one", small(), api.ErrForm, change(top(""), "1.2.3.4", ""), x, change(top(""), "", "x"))
	}
	for what, x := range map[string]diff.Change{
		"a wrong value":       change(cost, "5", "0"),
		"a new wrong value":   change(dead, "", "065"),
		"no leaf":             change(face("eth0", "", ""), "", "5"),
		"no row":              change(face("eth0", "mtu", ""), "", "5"),
		"a wrong name":        change(face("e/0", "cost", ""), "", "5"),
		"a head that isn't":   change(conf.Line{Head: 3, Name: "eth0", Leaf: "cost"}, "", "5"),
		"a name of Top":       change(conf.Line{Name: "x", Leaf: "router-id"}, "", "1.2.3.4"),
		"a value that has it": change(face("eth2", "cost", "5"), "", "x"),
	} {
		wantRefused(t, what, small(), api.ErrArg, x)
		wantRefused(t, what+", ahead of another fault", small(), api.ErrArg, change(top(""), "1.2.3.4", ""), x, change(top(""), "9.9.9.9", ""))
		wantRefused(t, what+", without room", append(small(), costs(59)...), api.ErrArg, x)
	}
}

// P7.1: the limit of 64 lines holds at each change.
func TestApplyWithoutRoom(t *testing.T) {
	full, id := costs(64), change(top(""), "", "1.2.3.4")
	gone := change(face("i163", "cost", ""), "64", "")
	wantRefused(t, "one more", full, api.ErrFull, id)
	wantRefused(t, "one more, and a fault behind it", full, api.ErrFull, id, change(top(""), "9.9.9.9", ""))
	wantRefused(t, "one more, and one less behind it", full, api.ErrFull, id, gone)
	wantRefused(t, "a fault, and one more behind it", full, api.ErrForm, change(face("i163", "cost", ""), "65", ""), id)
	wantRefused(t, "two more", full[:63], api.ErrFull, id, change(face("i163", "dead", ""), "", "5"))
	wantApplied(t, "one less, and one more", full, []diff.Change{gone, id}, append(conf.Conf{top("1.2.3.4")}, full[:63]...))
	wantApplied(t, "the 64th", full[:63], []diff.Change{id}, append(conf.Conf{top("1.2.3.4")}, full[:63]...))
	want := costs(64)
	want[63].Value = "9"
	wantApplied(t, "another value", full, []diff.Change{change(face("i163", "cost", ""), "64", "9")}, want)
}

// P7.1
func TestBack(t *testing.T) {
	l := []diff.Change{change(top("v"), "", "1.2.3.4"), change(face("eth0", "cost", ""), "5", "6"), change(conf.Line{Head: 7, Name: "x"}, "a", ""), change(conf.Line{}, "", "")}
	want := []diff.Change{change(top("v"), "1.2.3.4", ""), change(face("eth0", "cost", ""), "6", "5"), change(conf.Line{Head: 7, Name: "x"}, "", "a"), change(conf.Line{}, "", "")}
	if back := diff.Back(l); !slices.Equal(back, want) {
		t.Errorf("%v", back)
	}
	if back := diff.Back(diff.Back(l)); !slices.Equal(back, l) {
		t.Errorf("%v", back)
	}
	if len(diff.Back(nil)) != 0 {
		t.Error("of nothing")
	}
}

// anyConf is a configuration of at most so many lines.
func anyConf(r *rand.Rand, most int) conf.Conf {
	var c conf.Conf
	for range r.Intn(most + 1) {
		number := strconv.Itoa(1 + r.Intn(3))
		some := func(l ...string) string { return l[r.Intn(len(l))] }
		l := face(some("a", "b", "c"), some("cost", "dead", "hello", "priority", "auth"), number)
		switch r.Intn(4) {
		case 0:
			l = top("1.2.3." + number)
		case 1:
			l = area("0.0.0."+some("0", "1", "10", "2"), "cost", number)
		}
		if d, e := conf.Set(c, l); e == api.OK {
			c = d
		}
	}
	return c
}

// byLines tells what changes by another way than the program's.
func byLines(a, b conf.Conf) []diff.Change {
	values := map[conf.Line][2]string{}
	for side, c := range []conf.Conf{a, b} {
		for _, l := range c {
			value := l.Value
			l.Value = ""
			both := values[l]
			both[side] = value
			values[l] = both
		}
	}
	var changes []diff.Change
	for l, both := range values {
		if both[0] != both[1] {
			changes = append(changes, change(l, both[0], both[1]))
		}
	}
	slices.SortFunc(changes, func(x, y diff.Change) int {
		if conf.Less(x.Line, y.Line) {
			return -1
		}
		return 1
	})
	return changes
}

// P7.1, P7.2
func TestLinesAndApply(t *testing.T) {
	r := rand.New(rand.NewSource(1))
	for range 3000 {
		a, b := anyConf(r, 20), anyConf(r, 20)
		wantLines(t, "Lines", a, b, byLines(a, b)...)
		l, _ := diff.Lines(a, b)
		wantApplied(t, "Apply", a, l, b)
		wantApplied(t, "Apply of Back", b, diff.Back(l), a)
		wantLines(t, "back", b, a, diff.Back(l)...)
		if t.Failed() {
			return
		}
	}
}

// P7.2: from full configurations to less full ones and back, and to ones of other values.
func TestLinesAndApplyOfFullConfs(t *testing.T) {
	other := costs(64)
	for i := range other {
		other[i].Value = strconv.Itoa(1000 + i)
	}
	for _, pair := range [][2]conf.Conf{{costs(64), nil}, {costs(64), costs(20)}, {costs(64), costs(64)[30:]}, {costs(64), other}, {costs(64), other[:63]}} {
		for _, turned := range []bool{false, true} {
			a, b := pair[0], pair[1]
			if turned {
				a, b = b, a
			}
			l, e := diff.Lines(a, b)
			if e != api.OK {
				t.Fatal(e)
			}
			wantApplied(t, "Apply", a, l, b)
			wantApplied(t, "Apply of Back", b, diff.Back(l), a)
		}
	}
}

// P7.3
func TestNothingIsKeptOrChanged(t *testing.T) {
	spare := conf.Line{Head: 77}
	given := append(small(), spare)[:5]
	whole := slices.Clone(given[:6])
	l := []diff.Change{change(top(""), "1.2.3.4", "9.9.9.9"), change(face("eth0", "cost", ""), "5", ""), change(face("eth9", "cost", ""), "", "1"), {Old: "spare"}}
	changes := l[:3]
	before := slices.Clone(l)
	check := func(what string) {
		t.Helper()
		if !slices.Equal(given[:6], whole) || !slices.Equal(l, before) {
			t.Errorf("%s: what was handed in is changed", what)
		}
	}
	for _, list := range [][]diff.Change{nil, changes, {{}}} {
		d, e := diff.Apply(given, list)
		if e != api.OK {
			t.Fatal(e)
		}
		for i := range d[:cap(d)] {
			d[:cap(d)][i] = conf.Line{Head: 99}
		}
		check("Apply")
	}
	back := diff.Back(changes)
	for i := range back[:cap(back)] {
		back[:cap(back)][i] = diff.Change{Old: "spoiled"}
	}
	check("Back")
	lines, _ := diff.Lines(given, nil)
	for i := range lines[:cap(lines)] {
		lines[:cap(lines)][i] = diff.Change{Old: "spoiled"}
	}
	diff.Lines(nil, given)
	diff.Text(changes)
	check("Lines")
}
