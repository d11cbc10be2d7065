package parse_test

import (
	"math/rand"
	"slices"
	"strings"
	"testing"

	"waystone/api"
	"waystone/conf"
	"waystone/parse"
)

// P6.1
func TestText(t *testing.T) {
	wantConf(t, "")
	wantConf(t, " # nothing\n")
	wantConf(t, "router-id 1.2.3.4;", top("1.2.3.4"))
	wantConf(t, "area 0.0.0.1{type stub;cost 5;}", area("0.0.0.1", "cost", "5"), area("0.0.0.1", "type", "stub"))
	wantConf(t, "interface eth0\n{\n}\n")
	wantConf(t, "area 0.0.0.0 {} area 0.0.0.0 {}")
	wantConf(t, "interface area { area 1.1.1.1; auth area; }", face("area", "area", "1.1.1.1"), face("area", "auth", "area"))
	wantConf(t, "interface interface { auth set ; }", face("interface", "auth", "set"))
	wantConf(t, "router-id # here\n1.2.3.4 # and\n;", top("1.2.3.4"))
}

// P6.1: any order, a name more than once, and the last of a line counts.
func TestTextInAnyOrder(t *testing.T) {
	text := "interface b { cost 5; cost 6; } router-id 1.1.1.1; area 0.0.0.1 { cost 3; } interface a { dead 9; }\n" +
		"interface b { hello 3; cost 7; } area 0.0.0.1 { type stub; cost 4; } router-id 2.2.2.2; interface b { hello 3; }"
	wantConf(t, text, top("2.2.2.2"), area("0.0.0.1", "cost", "4"), area("0.0.0.1", "type", "stub"),
		face("a", "dead", "9"), face("b", "cost", "7"), face("b", "hello", "3"))
}

// P6.1
func TestTextOfNone(t *testing.T) {
	for _, text := range []string{
		";", "{", "}", "{}", "x", "!", "router-id", "router-id 1.2.3.4", "router-id;", "router-id 1.2.3.4;;", "router-id 1.2.3;", "router-id 1.2.3.4 5;", "router-id { 1.2.3.4; }",
		"cost 5;", "router-id 1.2.3.4; x", "router-id ; 1.2.3.4", strings.Repeat("r", 32),
		"area", "area {", "area 0.0.0.1", "area 0.0.0.1 {", "area 0.0.0.1 }", "area 0.0.0.1 ;", "area 0.0.0.1 { type", "area 0.0.0.1 { type stub", "area 0.0.0.1 { type stub;",
		"area 0.0.0.1 { type stub }", "area 0.0.0.1 { type stub; } }", "area 0.0.0.1 { type stub; };", "area 0.0.0.1 type stub;", "area 0.0.0.1 { type other; }",
		"area 0.0.0.1 { dead 5; }", "area 0.0.0.1 { router-id 1.2.3.4; }", "area x { type stub; }", "area x {}", "area {}", "area {} {}", "area { type stub; }",
		"area 0.0.0.1 { area 0.0.0.1 { type stub; } }", "area 0.0.0.1 { interface eth0 { cost 5; } }", "area 0.0.0.1 {{ type stub; }}", "area 0.0.0.1 { ; }", "area 0.0.0.1 {;}",
		"area area 0.0.0.1 {}", "interface", "interface eth0", "interface e/0 { cost 5; }", "interface e/0 {}", "interface ; {}", "interface eth0 { cost 0; }", "interface eth0 { mtu 5; }",
		"interface eth0 { cost 5 5; }", "interface eth0 eth1 { cost 5; }", "interface eth0 { cost; }", "interface eth0 { auth {; }", "interface eth0 { auth ;; }", "interface eth0 { type stub; }",
		"top { router-id 1.2.3.4; }", "set router-id 1.2.3.4;", "Interface eth0 {}", "interface eth0 { area 0.0.0.1 { } }",
		"router-id 1.2.3.4; !", "area 0.0.0.1 { cost 5; cost x; }", "area 0.0.0.1 { cost x; cost 5; }",
	} {
		wantNoConf(t, text, api.ErrForm)
	}
}

// P6.1: each place at which a text may end.
func TestTextThatEndsEarly(t *testing.T) {
	text := "router-id 1.1.1.1;area 0.0.0.0{cost 5;}interface eth0{cost 5;hello 6;}"
	for end := range len(text) {
		c, e := parse.Text(text[:end])
		if whole := end == 0 || text[end-1] == '}' || end == strings.Index(text, "area"); whole != (e == api.OK) || e != api.OK && (e != api.ErrForm || len(c) != 0) {
			t.Errorf("%q: error %d, %v", text[:end], e, c)
		}
	}
}

// P6.1: the limit of 64 lines; lines that are set again are none more, and whether it is a text at all is asked first.
func TestTextOfTooManyLines(t *testing.T) {
	full, over := conf.Text(costs(64)), ""
	for _, l := range costs(65) {
		over += "interface " + l.Name + " { cost " + l.Value + "; }\n"
	}
	wantConf(t, full, costs(64)...)
	wantConf(t, full+full+full, costs(64)...)
	wantConf(t, over[:strings.LastIndex(over, "interface")]+"interface i100 { cost 1; }", costs(64)...)
	wantNoConf(t, over, api.ErrFull)
	wantNoConf(t, full+"router-id 1.2.3.4;", api.ErrFull)
	wantNoConf(t, "router-id 1.2.3.4;"+full, api.ErrFull)
	wantNoConf(t, over+over+"interface eth0 { }", api.ErrFull)
	for _, wrong := range []string{"x", "router-id 1.2.3;", "interface i100 { cost 0; }", "interface i100 { cost 5;", "!"} {
		wantNoConf(t, over+wrong, api.ErrForm)
		wantNoConf(t, wrong+over, api.ErrForm)
	}
}

// P6.2
func TestTextOfConfText(t *testing.T) {
	r := rand.New(rand.NewSource(3))
	for range 400 {
		var c conf.Conf
		for range r.Intn(80) {
			if d, e := conf.Set(c, anyLine(r)); e == api.OK {
				c = d
			}
		}
		wantConf(t, conf.Text(c), c...)
	}
	wantConf(t, conf.Text(costs(64)), costs(64)...)
}

// P6.1: lines one by one, in any order, beside Set.
func TestTextIsAsSet(t *testing.T) {
	r := rand.New(rand.NewSource(4))
	for range 400 {
		var want conf.Conf
		text := ""
		for range r.Intn(40) {
			l := anyLine(r)
			want, _ = conf.Set(want, l)
			line := l.Leaf + " " + l.Value + ";"
			switch l.Head {
			case api.Area:
				line = "area " + l.Name + "{" + line + "}"
			case api.Interface:
				line = "interface " + l.Name + " {\n" + line + "\n}"
			}
			text += line
		}
		wantConf(t, text, want...)
	}
}

// P6.1: texts of any signs and words are read or refused, and what is read is a configuration.
func TestAnyText(t *testing.T) {
	parts := []string{"router-id", "1.2.3.4", ";", ";", "{", "}", "area", "interface", "eth0", "cost", "5", "type", "stub", "cost 5 ;", "area 0.0.0.1 {", "interface eth0 {", "}", "#", "\n", "!"}
	r := rand.New(rand.NewSource(5))
	for range 30000 {
		var words []string
		for range r.Intn(12) {
			words = append(words, parts[r.Intn(len(parts))])
		}
		text := strings.Join(words, " ")
		c, e := parse.Text(text)
		if e != api.OK && (e != api.ErrForm || len(c) != 0) || !conf.Right(c) {
			t.Fatalf("%q: error %d, %v", text, e, c)
		}
		if e == api.OK && !slices.Equal(c, again(t, c)) {
			t.Fatalf("%q: %v", text, c)
		}
	}
}

func again(t *testing.T, c conf.Conf) conf.Conf {
	t.Helper()
	d, e := parse.Text(conf.Text(c))
	if e != api.OK {
		t.Fatalf("%v: error %d", c, e)
	}
	return d
}
