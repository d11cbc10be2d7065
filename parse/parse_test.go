package parse_test

import (
	"math/rand"
	"strconv"
	"strings"
	"testing"

	"waystone/api"
	"waystone/conf"
	"waystone/parse"
)

// P6.1
func TestReadLines(t *testing.T) {
	for text, want := range map[string]parse.Command{
		"set router-id 1.2.3.4":                  set(top("1.2.3.4")),
		"set area 0.0.0.1 type stub":             set(area("0.0.0.1", "type", "stub")),
		"set area 0.0.0.1 cost 0":                set(area("0.0.0.1", "cost", "0")),
		"set interface eth0 cost 5":              set(face("eth0", "cost", "5")),
		"set interface eth0 address 10.0.0.1/24": set(face("eth0", "address", "10.0.0.1/24")),
		"set interface eth0 area 0.0.0.0":        set(face("eth0", "area", "0.0.0.0")),
		"set interface interface auth set":       set(face("interface", "auth", "set")),
		"set interface area area 1.1.1.1":        set(face("area", "area", "1.1.1.1")),
		"delete router-id":                       del(top("")),
		"delete area 0.0.0.1":                    del(area("0.0.0.1", "", "")),
		"delete area 0.0.0.1 type":               del(area("0.0.0.1", "type", "")),
		"delete interface eth0":                  del(face("eth0", "", "")),
		"delete interface eth0 dead":             del(face("eth0", "dead", "")),
		"delete interface cost":                  del(face("cost", "", "")),
		" \tset\n router-id # x\n 1.2.3.4 #y":    set(top("1.2.3.4")),
	} {
		wantCommand(t, text, want)
	}
}

// P6.1
func TestReadWithoutLines(t *testing.T) {
	for text, want := range map[string]parse.Command{
		"show":                   {What: parse.Show},
		"compare":                {What: parse.Compare},
		"check":                  {What: parse.Check},
		"commit":                 {What: parse.Commit},
		"confirm":                {What: parse.Confirm},
		"commit-confirmed 1":     {What: parse.Confirmed, N: 1},
		"commit-confirmed 65535": {What: parse.Confirmed, N: 65535},
		"rollback 0":             {What: parse.Rollback},
		"rollback 5":             {What: parse.Rollback, N: 5},
		"\nshow\n":               {What: parse.Show},
		"show#":                  {What: parse.Show},
		"#\nshow # x":            {What: parse.Show},
	} {
		wantCommand(t, text, want)
	}
}

// P6.1
func TestReadOfNone(t *testing.T) {
	for _, text := range []string{
		"", " ", "# show", "Show", "shows", "sho", "!", "show !", strings.Repeat("s", 32), "show show", "show 1", "compare x", "check x", "commit now", "commit 5", "confirm 5",
		"commit-confirmed", "commit-confirmed 0", "commit-confirmed 65536", "commit-confirmed 05", "commit-confirmed -1", "commit-confirmed 5 5", "commit-confirmed x",
		"rollback", "rollback 6", "rollback 00", "rollback -1", "rollback 1 1", "rollback 1000000000", "confirmed 5", "commit- 5",
		"set", "set router-id", "set router-id 1.2.3", "set router-id 1.2.3.4 5", "set cost 5", "set area 5", "set interface eth0", "set router-id router-id",
		"set area 0.0.0.1", "set area 0.0.0.1 type", "set area x type stub", "set area 0.0.0.1 type broken", "set area 0.0.0.1 dead 5", "set area 0.0.0.1 router-id 1.2.3.4",
		"set area 0.0.0.1 type stub stub", "set interface eth0 cost", "set interface e/0 cost 5", "set interface eth0 cost 0", "set interface eth0 mtu 5",
		"set interface eth0 cost 5 5", "set Interface eth0 cost 5", "set top router-id 1.2.3.4", "set  top x router-id 1.2.3.4",
		"delete", "delete cost", "delete area", "delete interface", "delete area x", "delete interface e/0", "delete area 0.0.0.1 dead", "delete interface eth0 mtu",
		"delete interface eth0 cost 5", "delete router-id 1.2.3.4", "delete area 0.0.0.1 type stub", "delete top router-id", "delete x 0.0.0.1", "delete x eth0 cost",
		"set router-id 1.2.3.4;", "show;", "; show", "show }", "{ show }", "delete area 0.0.0.1 {", "delete interface {", "set interface { cost 5", "set interface eth0 auth {",
		"set interface eth0 auth ;", "rollback ;", "set router-id {", "area 0.0.0.1 type stub", "router-id 1.2.3.4", "confirm\nconfirm", "set interface eth0 auth 123456789",
	} {
		wantNoCommand(t, text)
	}
}

// P6.2, and that each command has its words.
func TestWrite(t *testing.T) {
	for text, c := range map[string]parse.Command{
		"set router-id 1.2.3.4":      set(top("1.2.3.4")),
		"set area 0.0.0.1 type stub": set(area("0.0.0.1", "type", "stub")),
		"set interface eth0 cost 5":  set(face("eth0", "cost", "5")),
		"delete router-id":           del(top("")),
		"delete area 0.0.0.1":        del(area("0.0.0.1", "", "")),
		"delete area 0.0.0.1 cost":   del(area("0.0.0.1", "cost", "")),
		"delete interface eth0":      del(face("eth0", "", "")),
		"delete interface eth0 area": del(face("eth0", "area", "")),
		"show":                       {What: parse.Show},
		"compare":                    {What: parse.Compare},
		"check":                      {What: parse.Check},
		"commit":                     {What: parse.Commit},
		"commit-confirmed 65535":     {What: parse.Confirmed, N: 65535},
		"confirm":                    {What: parse.Confirm},
		"rollback 0":                 {What: parse.Rollback},
	} {
		if s, e := parse.Write(c); e != api.OK || s != text {
			t.Errorf("%v: error %d, %q, want %q", c, e, s, text)
		}
		wantCommand(t, text, c)
	}
}

// P6.1
func TestWriteOfNone(t *testing.T) {
	none := []parse.Command{
		{}, {What: -1}, {What: 10}, {What: 1 << 40}, {What: parse.Show, N: 1}, {What: parse.Commit, N: -1}, {What: parse.Check, Line: top("")},
		{What: parse.Confirm, Line: conf.Line{Value: "x"}}, {What: parse.Show, Line: conf.Line{Head: 1}},
		{What: parse.Confirmed}, {What: parse.Confirmed, N: 65536}, {What: parse.Confirmed, N: -5}, {What: parse.Confirmed, N: 5, Line: top("1.2.3.4")},
		{What: parse.Rollback, N: 6}, {What: parse.Rollback, N: -1}, {What: parse.Rollback, N: 1, Line: conf.Line{Name: "x"}},
		set(conf.Line{}), set(top("")), set(top("1.2.3")), set(area("", "type", "stub")), set(area("x", "type", "stub")), set(face("eth0", "", "5")),
		set(face("eth0", "cost", "")), set(face("eth0", "cost", "0")), set(face("", "cost", "5")), set(face("eth0", "mtu", "5")), set(face("e/0", "cost", "5")),
		set(conf.Line{Head: 3, Name: "eth0", Leaf: "cost", Value: "5"}), set(conf.Line{Head: -1, Leaf: "router-id", Value: "1.2.3.4"}),
		set(conf.Line{Name: "x", Leaf: "router-id", Value: "1.2.3.4"}), set(face("eth0 cost 5 #", "cost", "5")), set(face("eth0", "cost", "5 # x")),
		set(face("eth0", "cost", "5 ")), set(face("eth0", "cost", " 5")), set(face("eth0", "cost 5", "5")), set(conf.Line{Leaf: "interface eth0 cost", Value: "5"}),
		{What: parse.Set, Line: top("1.2.3.4"), N: 1},
		del(conf.Line{}), del(top("1.2.3.4")), del(face("eth0", "cost", "5")), del(face("", "cost", "")), del(face("", "", "")), del(area("", "", "")),
		del(conf.Line{Name: "x", Leaf: "router-id"}), del(conf.Line{Head: 3, Name: "eth0"}), del(face("eth0 ", "", "")), del(face("eth0\n", "cost", "")),
		del(conf.Line{Leaf: "interface eth0"}), del(conf.Line{Leaf: "cost"}), {What: parse.Delete, Line: top(""), N: 7},
	}
	for _, c := range none {
		if s, e := parse.Write(c); e != api.ErrArg || s != "" {
			t.Errorf("%v: error %d, %q", c, e, s)
		}
	}
}

// P6.1, P6.2: what is read is written in the plain way, and that is read again.
func TestReadAndWriteAnyWords(t *testing.T) {
	parts := strings.Fields("set set delete delete show commit commit-confirmed confirm rollback area interface router-id cost type auth 0.0.0.1 eth0 stub 5 0 1.2.3.4 10.0.0.1/24 address { ; x")
	r := rand.New(rand.NewSource(1))
	read := 0
	for range 60000 {
		var words []string
		for range 1 + r.Intn(5) {
			words = append(words, parts[r.Intn(len(parts))])
		}
		plain := strings.Join(words, " ")
		c, e := parse.Read(plain)
		if again, wrong := parse.Read("\n" + strings.Join(words, "\t\n ") + "# x"); again != c || wrong != e {
			t.Fatalf("%q: %v, error %d, and else %v, error %d", plain, c, e, again, wrong)
		}
		if e != api.OK {
			wantNoCommand(t, plain)
			continue
		}
		read++
		if s, e := parse.Write(c); e != api.OK || s != plain {
			t.Fatalf("%q is written as %q, error %d", plain, s, e)
		}
	}
	if read < 300 {
		t.Error("only", read, "were read")
	}
}

// P6.2
func TestWriteAnyCommand(t *testing.T) {
	r := rand.New(rand.NewSource(2))
	for range 2000 {
		l := anyLine(r)
		c := set(l)
		if r.Intn(2) == 0 {
			l.Value = ""
			if l.Head != api.Top && r.Intn(2) == 0 {
				l.Leaf = ""
			}
			c = del(l)
		}
		s, e := parse.Write(c)
		if e != api.OK {
			t.Fatalf("%v: error %d", c, e)
		}
		wantCommand(t, s, c)
	}
	for n := range 65536 + 10 {
		c := parse.Command{What: parse.Confirmed, N: n}
		s, e := parse.Write(c)
		if right := n >= 1 && n <= 65535; right != (e == api.OK) || right && s != "commit-confirmed "+strconv.Itoa(n) {
			t.Fatalf("%v: error %d, %q", c, e, s)
		}
	}
}
