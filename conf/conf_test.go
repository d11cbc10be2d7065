package conf_test

import (
	"math/rand"
	"slices"
	"testing"

	"waystone/api"
	"waystone/conf"
	"waystone/schema"
)

// P5.1
func TestLess(t *testing.T) {
	rising := []conf.Line{
		{-1, "z", "z", "z"}, {0, "", "", ""}, {0, "", "a", ""}, {0, "a", "", ""}, {1, "", "", ""}, {1, "0.0.0.10", "cost", "1"},
		{1, "0.0.0.2", "cost", "1"}, {2, "B", "cost", ""}, {2, "a", "z", ""}, {2, "a.", "a", ""}, {2, "aa", "a", ""}, {2, "b", "a", ""},
		{2, "b", "aa", ""}, {2, "b", "b", ""}, {2, "b\xff", "a", ""}, {1 << 40, "", "", ""},
	}
	for i, a := range rising {
		for k, b := range rising {
			b.Value = "another"
			if conf.Less(a, b) != (i < k) {
				t.Errorf("Less(%v, %v)", a, b)
			}
		}
	}
}

// P5.1
func TestRight(t *testing.T) {
	for _, c := range []conf.Conf{nil, {}, {top("1.2.3.4")}, small(), costs(64)} {
		if !conf.Right(c) {
			t.Errorf("%v isn't right", c)
		}
	}
	for what, c := range wrongs() {
		if conf.Right(c) {
			t.Errorf("%s: right", what)
		}
	}
}

// P5.1: each call of what is no configuration.
func TestWrongConfs(t *testing.T) {
	for what, c := range wrongs() {
		d, e := conf.Set(c, top("1.2.3.4"))
		wantError(t, what+": Set", d, e, api.ErrArg)
		d, e = conf.Delete(c, api.Interface, "e", "cost")
		wantError(t, what+": Delete", d, e, api.ErrArg)
		d, e = conf.Delete(c, api.Interface, "nobody", "")
		wantError(t, what+": Delete of none", d, e, api.ErrArg)
		for _, l := range []conf.Line{top(""), area("0.0.0.0", "cost", ""), face("e", "cost", ""), face("i100", "cost", "")} {
			if s := conf.Value(c, l.Head, l.Name, l.Leaf); s != "" {
				t.Errorf("%s: Value: %q", what, s)
			}
		}
		if l := conf.Names(c, api.Interface); len(l) != 0 {
			t.Errorf("%s: Names: %q", what, l)
		}
		if s := conf.Text(c); s != "" {
			t.Errorf("%s: Text: %q", what, s)
		}
		if b, e := conf.Put(c); len(b) != 0 || e != api.ErrArg {
			t.Errorf("%s: Put: %v, error %d", what, b, e)
		}
		if conf.Same(c, c) || conf.Same(c, nil) || conf.Same(small(), c) {
			t.Errorf("%s: Same", what)
		}
	}
}

// P5.1
func TestSet(t *testing.T) {
	c, e := conf.Set(nil, face("eth0", "cost", "5"))
	wantConf(t, "the first", c, e, conf.Conf{face("eth0", "cost", "5")})
	c, e = conf.Set(small(), face("eth0", "cost", "6"))
	want := small()
	want[4].Value = "6"
	wantConf(t, "in the place of one", c, e, want)
	for at := range small() {
		less := slices.Delete(small(), at, at+1)
		c, e = conf.Set(less, small()[at])
		wantConf(t, "one more", c, e, small())
		c, e = conf.Set(small(), small()[at])
		wantConf(t, "one that is there", c, e, small())
	}
	c, e = conf.Set(small(), face("eth2", "dead", "65535"))
	wantConf(t, "behind all", c, e, append(small(), face("eth2", "dead", "65535")))
}

// P5.1
func TestSetWhatCannotBe(t *testing.T) {
	for what, c := range wrongs() {
		if len(c) == 1 {
			d, e := conf.Set(small(), c[0])
			wantError(t, what, d, e, api.ErrArg)
			d, e = conf.Set(costs(64), c[0])
			wantError(t, what+", ahead of no room", d, e, api.ErrArg)
		}
	}
}

// P5.1: the limit of 64 lines.
func TestSetWithoutRoom(t *testing.T) {
	c, e := conf.Set(costs(63), top("1.2.3.4"))
	wantConf(t, "of 63 others", c, e, append(conf.Conf{top("1.2.3.4")}, costs(63)...))
	c, e = conf.Set(costs(64), top("1.2.3.4"))
	wantError(t, "of 64 others", c, e, api.ErrFull)
	c, e = conf.Set(costs(64), face("i163", "dead", "5"))
	wantError(t, "of 64 others, behind them", c, e, api.ErrFull)
	for at := range 64 {
		want := costs(64)
		want[at].Value = "999"
		c, e = conf.Set(costs(64), want[at])
		wantConf(t, "in the place of one of 64", c, e, want)
	}
}

// P5.1
func TestDelete(t *testing.T) {
	for at, l := range small() {
		c, e := conf.Delete(small(), l.Head, l.Name, l.Leaf)
		wantConf(t, "one line", c, e, slices.Delete(small(), at, at+1))
	}
	c, e := conf.Delete(small(), api.Interface, "eth0", "")
	wantConf(t, "a name", c, e, slices.Delete(small(), 3, 5))
	c, e = conf.Delete(small(), api.Area, "0.0.0.1", "")
	wantConf(t, "an area", c, e, slices.Delete(small(), 2, 3))
	c, e = conf.Delete(small(), api.Top, "", "")
	wantConf(t, "Top", c, e, small()[1:])
	c, e = conf.Delete(conf.Conf{top("1.2.3.4")}, api.Top, "", "router-id")
	wantConf(t, "the only one", c, e, nil)
	for _, l := range []conf.Line{face("eth2", "", ""), face("eth", "", ""), face("eth0", "dead", ""), face("eth0", "mtu", ""), face("", "cost", ""),
		face("", "", ""), area("0.0.0.0", "type", ""), area("0.0.0.2", "", ""), area("eth0", "cost", ""), {Head: 3, Name: "eth0"}, {Head: -1},
		{Head: api.Top, Name: "eth0"}, {Head: api.Top, Leaf: "cost"}} {
		c, e := conf.Delete(small(), l.Head, l.Name, l.Leaf)
		wantError(t, "Delete of none", c, e, api.ErrNone)
	}
	c, e = conf.Delete(nil, api.Top, "", "")
	wantError(t, "Delete of nothing", c, e, api.ErrNone)
}

// P5.1
func TestValue(t *testing.T) {
	for _, l := range small() {
		if s := conf.Value(small(), l.Head, l.Name, l.Leaf); s != l.Value {
			t.Errorf("%v: %q", l, s)
		}
	}
	for _, r := range schema.Table() {
		for _, name := range []string{"", "nobody", "0.0.0.9"} {
			if s := conf.Value(nil, r.Head, name, r.Name); s != r.Default {
				t.Errorf("%s of nothing: %q", r.Name, s)
			}
		}
	}
	for _, a := range []struct {
		l    conf.Line
		want string
	}{
		{face("eth1", "cost", ""), "10"}, {face("eth0", "hello", ""), "10"}, {face("eth0", "dead", ""), "40"}, {face("eth0", "area", ""), ""},
		{face("eth1", "address", ""), ""}, {area("0.0.0.1", "cost", ""), "1"}, {area("0.0.0.0", "type", ""), "normal"},
		{face("eth0", "mtu", ""), ""}, {face("eth0", "", ""), ""}, {area("0.0.0.0", "dead", ""), ""}, {conf.Line{Head: 3, Leaf: "cost"}, ""},
	} {
		if s := conf.Value(small(), a.l.Head, a.l.Name, a.l.Leaf); s != a.want {
			t.Errorf("%v: %q, want %q", a.l, s, a.want)
		}
	}
}

// P5.1
func TestNames(t *testing.T) {
	for head, want := range map[int][]string{api.Top: nil, api.Area: {"0.0.0.0", "0.0.0.1"}, api.Interface: {"eth0", "eth1"}, 3: nil, -1: nil} {
		if l := conf.Names(small(), head); !slices.Equal(l, want) {
			t.Errorf("Names(%d): %q", head, l)
		}
	}
	same := conf.Conf{area("1.1.1.1", "cost", "1"), area("1.1.1.1", "type", "stub"), face("1.1.1.1", "area", "1.1.1.1"), face("1.1.1.1", "cost", "1")}
	if l := conf.Names(same, api.Area); !slices.Equal(l, []string{"1.1.1.1"}) {
		t.Errorf("%q", l)
	}
	if l := conf.Names(same, api.Interface); !slices.Equal(l, []string{"1.1.1.1"}) {
		t.Errorf("%q", l)
	}
	if l := conf.Names(costs(64), api.Interface); len(l) != 64 || !slices.IsSorted(l) {
		t.Errorf("%q", l)
	}
}

// P5.1
func TestSame(t *testing.T) {
	if !conf.Same(nil, conf.Conf{}) || !conf.Same(small(), small()) || !conf.Same(costs(64), costs(64)) {
		t.Error("the same")
	}
	for at := range small() {
		if conf.Same(small(), slices.Delete(small(), at, at+1)) || conf.Same(slices.Delete(small(), at, at+1), small()) {
			t.Error("without line", at)
		}
	}
	other := small()
	other[4].Value = "6"
	if conf.Same(small(), other) || conf.Same(small(), nil) || conf.Same(nil, small()) {
		t.Error("others")
	}
}

// P5.2: beside a plain map of what is set.
func TestSetAndDelete(t *testing.T) {
	r := rand.New(rand.NewSource(1))
	for range 40 {
		var c conf.Conf
		is := map[conf.Line]string{}
		for range 150 {
			l := anyLine(r)
			value := l.Value
			l.Value = ""
			var e api.Errno
			if r.Intn(5) < 3 {
				is[l] = value
				c, e = conf.Set(c, conf.Line{Head: l.Head, Name: l.Name, Leaf: l.Leaf, Value: value})
			} else if _, there := is[l]; there {
				delete(is, l)
				c, e = conf.Delete(c, l.Head, l.Name, l.Leaf)
			}
			if e != api.OK || !conf.Right(c) || len(c) != len(is) {
				t.Fatalf("%v: error %d, %v", l, e, c)
			}
			for l, value := range is {
				if s := conf.Value(c, l.Head, l.Name, l.Leaf); s != value {
					t.Fatalf("%v: %q, want %q", l, s, value)
				}
			}
			if _, there := is[l]; !there {
				row, _ := schema.Find(l.Head, l.Leaf)
				if s := conf.Value(c, l.Head, l.Name, l.Leaf); s != row.Default {
					t.Fatalf("%v is deleted: %q", l, s)
				}
			}
		}
	}
}

// P5.3
func TestNothingIsKeptOrChanged(t *testing.T) {
	given := roomy(small())
	spoil := func(c conf.Conf) {
		for i := range c[:cap(c)] {
			c[:cap(c)][i] = conf.Line{Head: 99}
		}
	}
	for _, l := range []conf.Line{top("9.9.9.9"), face("eth0", "auth", "key"), face("eth9", "cost", "1"), face("eth1", "area", "0.0.0.2")} {
		c, e := conf.Set(given, l)
		if e != api.OK {
			t.Fatal(e)
		}
		wantUntouched(t, "Set", given, small())
		spoil(c)
		wantUntouched(t, "Set's answer, spoiled", given, small())
	}
	for _, l := range []conf.Line{top(""), face("eth0", "", ""), face("eth1", "area", "")} {
		c, e := conf.Delete(given, l.Head, l.Name, l.Leaf)
		if e != api.OK {
			t.Fatal(e)
		}
		wantUntouched(t, "Delete", given, small())
		spoil(c)
		wantUntouched(t, "Delete's answer, spoiled", given, small())
	}
	conf.Right(given)
	conf.Same(given, given)
	conf.Text(given)
	conf.Value(given, api.Interface, "eth0", "cost")
	for i, l := 0, conf.Names(given, api.Interface); i < len(l); i++ {
		l[i] = "spoiled"
	}
	b, _ := conf.Put(given)
	for i := range b {
		b[i] = 99
	}
	wantUntouched(t, "the others", given, small())
}
