package rules_test

import (
	"fmt"
	"math/big"
	"math/rand"
	"slices"
	"strconv"
	"strings"
	"testing"

	"waystone/api"
	"waystone/conf"
	"waystone/rules"
)

// build is a configuration of lines "LEAF VALUE", "area NAME LEAF VALUE", "interface NAME LEAF VALUE".
func build(t *testing.T, lines ...string) conf.Conf {
	t.Helper()
	var c conf.Conf
	for _, s := range lines {
		w := strings.Fields(s)
		l := conf.Line{Leaf: w[0], Value: w[len(w)-1]}
		if len(w) == 4 {
			l = conf.Line{Head: api.Interface, Name: w[1], Leaf: w[2], Value: w[3]}
			if w[0] == "area" {
				l.Head = api.Area
			}
		}
		d, e := conf.Set(c, l)
		if e != api.OK {
			t.Fatalf("%s: error %d", s, e)
		}
		c = d
	}
	return c
}

func wantFaults(t *testing.T, want string, lines ...string) {
	t.Helper()
	l, e := rules.Check(build(t, lines...))
	if s := strings.ReplaceAll(strings.TrimSpace(rules.Text(l)), "\n", ", "); e != api.OK || s != want {
		t.Errorf("%q: error %d, %q, want %q", lines, e, s, want)
	}
}

// with is an interface that nothing is wrong with, and what else is set.
func with(lines ...string) []string {
	return append([]string{"router-id 1.1.1.1", "interface a area 0.0.0.0", "interface a address 10.0.0.1/24"}, lines...)
}

// P8.1
func TestNothingIsWrong(t *testing.T) {
	wantFaults(t, "")
	wantFaults(t, "", "router-id 1.1.1.1")
	wantFaults(t, "", "router-id 0.0.0.0")
	wantFaults(t, "", with()...)
	wantFaults(t, "", with("area 0.0.0.0 type normal", "area 0.0.0.0 cost 5", "interface a dead 11", "interface b area 0.0.0.1", "interface b address 10.0.1.1/24", "area 0.0.0.1 type nssa")...)
}

// P8.1
func TestWhatIsNotSet(t *testing.T) {
	wantFaults(t, "norouter, noarea eth0, noaddress eth0", "interface eth0 cost 5")
	wantFaults(t, "norouter", with("router-id 0.0.0.0")...)
	wantFaults(t, "norouter", with()[1:]...)
	wantFaults(t, "", with("router-id 0.0.0.1")...)
	wantFaults(t, "noarea b, noarea c, noaddress b, noaddress c", with("interface c cost 5", "interface b cost 5")...)
	wantFaults(t, "noarea b", with("interface b address 10.0.1.1/24")...)
	wantFaults(t, "noaddress b", with("interface b area 0.0.0.0")...)
}

// P8.1: each length, and an address that is another one just within it, and just behind it.
func TestOverlapOfEachLength(t *testing.T) {
	for short := 1; short <= 32; short++ {
		for _, long := range []int{short, min(short+1, 32), 32} {
			for bit := range 32 {
				other := uint32(0x0A010203) ^ 1<<bit
				lines := with("interface b area 0.0.0.0", "interface b address "+dotted(other)+"/"+strconv.Itoa(long), "interface a address 10.1.2.3/"+strconv.Itoa(short))
				turned := with("interface b area 0.0.0.0", "interface b address "+dotted(other)+"/"+strconv.Itoa(short), "interface a address 10.1.2.3/"+strconv.Itoa(long))
				want := "overlap b"
				if bit >= 32-short {
					want = ""
				}
				wantFaults(t, want, lines...)
				wantFaults(t, want, turned...)
			}
		}
	}
}

func dotted(n uint32) string {
	return fmt.Sprintf("%d.%d.%d.%d", n>>24, n>>16&255, n>>8&255, n&255)
}

// P8.1
func TestOverlap(t *testing.T) {
	all := []string{"interface b area 0.0.0.0", "interface c area 0.0.0.0", "interface d area 0.0.0.0"}
	wantFaults(t, "overlap b, overlap c", with(append(all, "interface b address 10.0.0.1/24", "interface c address 10.0.0.2/32", "interface d address 10.0.1.0/24")...)...)
	// the one ahead by name is right, whichever is the greater net
	wantFaults(t, "overlap d", with(append(all, "interface b address 10.0.1.1/24", "interface c address 10.0.2.1/24", "interface d address 10.0.9.9/20")...)...)
	wantFaults(t, "overlap b, overlap c, overlap d", with(append(all, "interface a address 10.0.9.9/20", "interface b address 10.0.1.1/24", "interface c address 10.0.2.1/24", "interface d address 10.0.3.3/32")...)...)
	wantFaults(t, "overlap c", with(append(all, "interface b address 128.0.0.1/1", "interface c address 129.0.0.1/32", "interface d address 11.0.0.1/8")...)...)
	// without an address there is none that it meets
	wantFaults(t, "noaddress b, noaddress d", with(append(all, "interface c address 10.0.1.1/24")...)...)
	wantFaults(t, "noaddress b, overlap c, overlap d", with(append(all, "interface c address 0.0.0.0/1", "interface d address 0.0.0.0/1")...)...)
	// the area doesn't matter
	wantFaults(t, "overlap b", with("interface b area 0.0.0.1", "interface b address 10.0.0.129/25")...)
}

// P8.1
func TestBadDead(t *testing.T) {
	for _, a := range [][3]string{{"", "", ""}, {"11", "", ""}, {"10", "", "baddead a"}, {"9", "", "baddead a"}, {"", "39", ""}, {"", "40", "baddead a"}, {"", "41", "baddead a"},
		{"2", "1", ""}, {"1", "1", "baddead a"}, {"9", "10", "baddead a"}, {"100", "99", ""}, {"65535", "65534", ""}, {"65535", "65535", "baddead a"}, {"1000", "999", ""}} {
		lines := with()
		if a[0] != "" {
			lines = append(lines, "interface a dead "+a[0])
		}
		if a[1] != "" {
			lines = append(lines, "interface a hello "+a[1])
		}
		wantFaults(t, a[2], lines...)
	}
	wantFaults(t, "noarea b, noarea c, noaddress b, noaddress c, baddead b, baddead c", with("interface b hello 40", "interface c dead 10")...)
}

// P8.1
func TestBackbone(t *testing.T) {
	for _, kind := range []string{"stub", "nssa"} {
		wantFaults(t, "backbone 0.0.0.0", with("area 0.0.0.0 type "+kind)...)
		wantFaults(t, "backbone 0.0.0.0, unused 0.0.0.0", "area 0.0.0.0 type "+kind)
	}
	b := []string{"interface b area 0.0.0.1", "interface b address 10.0.1.1/24"}
	c := []string{"interface c area 0.0.0.2", "interface c address 10.0.2.1/24"}
	wantFaults(t, "", with(append(b, c...)...)...)
	wantFaults(t, "backbone", with(append(b, "interface a area 0.0.0.2")...)...)
	wantFaults(t, "", with(append(b, "interface a area 0.0.0.1")...)...)
	wantFaults(t, "backbone", with(append(append(b, c...), "interface a area 0.0.0.1")...)...)
	wantFaults(t, "backbone", with(append(append(b, c...), "interface a area 0.0.0.2")...)...)
	wantFaults(t, "backbone, backbone 0.0.0.0, unused 0.0.0.0", with(append(b, "interface a area 0.0.0.2", "area 0.0.0.0 type stub")...)...)
	wantFaults(t, "backbone, unused 0.0.0.0", with(append(b, "interface a area 0.0.0.2", "area 0.0.0.0 cost 5")...)...)
	// one whose area isn't set stands in none
	wantFaults(t, "noarea c", with("interface a area 0.0.0.1", "interface c address 10.0.2.1/24")...)
	wantFaults(t, "noarea aa, backbone", with(append(b, "interface a area 0.0.0.2", "interface aa address 10.0.2.1/24")...)...)
	wantFaults(t, "noarea aa", with(append(b, "interface a area 0.0.0.1", "interface aa address 10.0.2.1/24")...)...)
	// the one that joins them may stand last
	wantFaults(t, "", with(append(append(b, c...), "interface a area 0.0.0.1", "interface c area 0.0.0.0")...)...)
}

// P8.1
func TestUnused(t *testing.T) {
	wantFaults(t, "unused 0.0.0.0", "area 0.0.0.0 cost 1")
	wantFaults(t, "unused 0.0.0.10, unused 0.0.0.9", with("area 0.0.0.9 cost 1", "area 0.0.0.9 type stub", "area 0.0.0.10 type normal", "area 0.0.0.0 cost 1")...)
	wantFaults(t, "norouter, noarea a, noaddress a, unused 0.0.0.1", "interface a cost 1", "area 0.0.0.1 cost 1")
}

// many is so many interfaces that nothing else is wrong with.
func many(n int) []string {
	lines := []string{"router-id 1.1.1.1"}
	for i := range n {
		name := "i" + strconv.Itoa(10+i)
		lines = append(lines, "interface "+name+" area 0.0.0.1", "interface "+name+" address 10.0."+strconv.Itoa(i)+".1/24")
	}
	return lines
}

// P8.1: the limit of 8 interfaces.
func TestTooMany(t *testing.T) {
	wantFaults(t, "", many(1)...)
	wantFaults(t, "", many(7)...)
	wantFaults(t, "", many(8)...)
	wantFaults(t, "toomany", many(9)...)
	wantFaults(t, "toomany", many(31)...)
	wantFaults(t, "noaddress last, toomany", append(many(8), "interface last area 0.0.0.1")...)
	wantFaults(t, "unused 0.0.0.9, toomany", append(many(9), "area 0.0.0.9 cost 5")...)
}

// P8.1
func TestAllKindsAtOnce(t *testing.T) {
	lines := []string{"area 0.0.0.0 type stub", "area 0.0.0.9 cost 1", "interface z dead 5", "interface y hello 40"}
	for i := range 3 {
		n := strconv.Itoa(i)
		lines = append(lines, "interface b"+n+" area 0.0.0.1"+n, "interface c"+n+" address 10.0.0."+n+"/24", "interface B"+n+" cost 5")
	}
	wantFaults(t, "norouter, noarea B0, noarea B1, noarea B2, noarea c0, noarea c1, noarea c2, noarea y, noarea z, "+
		"noaddress B0, noaddress B1, noaddress B2, noaddress b0, noaddress b1, noaddress b2, noaddress y, noaddress z, "+
		"overlap c1, overlap c2, baddead y, baddead z, backbone, backbone 0.0.0.0, unused 0.0.0.0, unused 0.0.0.9, toomany", lines...)
}

// P8.1
func TestCheckOfNone(t *testing.T) {
	for _, c := range []conf.Conf{
		{{Head: api.Interface, Name: "a", Leaf: "cost", Value: "0"}}, {{Head: 3}}, {{}}, make(conf.Conf, 65),
		{{Head: api.Top, Leaf: "router-id", Value: "1.1.1.1"}, {Head: api.Top, Leaf: "router-id", Value: "1.1.1.1"}},
	} {
		if l, e := rules.Check(c); e != api.ErrArg || len(l) != 0 {
			t.Errorf("%v: error %d, %v", c, e, l)
		}
	}
	if l, e := rules.Check(nil); e != api.OK || len(l) != 0 {
		t.Error("of nothing:", e, l)
	}
}

// P8.1
func TestText(t *testing.T) {
	for kind, word := range map[int]string{1: "norouter", 2: "noarea", 3: "noaddress", 4: "overlap", 5: "baddead", 6: "backbone", 7: "unused", 8: "toomany",
		0: "?", 9: "?", -1: "?", 1 << 40: "?"} {
		if s := rules.Text([]rules.Fault{{Kind: kind}, {Kind: kind, Name: "a b"}}); s != word+"\n"+word+" a b\n" {
			t.Errorf("%d: %q", kind, s)
		}
	}
	if rules.Text(nil) != "" || rules.Text([]rules.Fault{}) != "" {
		t.Error("of none")
	}
}

// byTable tells the faults by the document's table, by another way than the program's.
func byTable(c conf.Conf) []rules.Fault {
	is := map[string]map[string]string{}
	areas, id := map[string]bool{}, ""
	kind0 := "normal"
	for _, l := range c {
		switch {
		case l.Head == api.Top:
			id = l.Value
		case l.Head == api.Area:
			areas[l.Name] = true
			if l.Name == "0.0.0.0" && l.Leaf == "type" {
				kind0 = l.Value
			}
		case is[l.Name] == nil:
			is[l.Name] = map[string]string{"dead": "40", "hello": "10", l.Leaf: l.Value}
		default:
			is[l.Name][l.Leaf] = l.Value
		}
	}
	var l []rules.Fault
	add := func(when bool, kind int, name string) {
		if when {
			l = append(l, rules.Fault{Kind: kind, Name: name})
		}
	}
	add(len(is) > 0 && (id == "" || id == "0.0.0.0"), 1, "")
	used := map[string]bool{}
	for name, x := range is {
		add(x["area"] == "", 2, name)
		add(x["address"] == "", 3, name)
		overlap := false
		for other, y := range is {
			overlap = overlap || other < name && meets(x["address"], y["address"])
		}
		add(overlap, 4, name)
		dead, _ := strconv.Atoi(x["dead"])
		hello, _ := strconv.Atoi(x["hello"])
		add(dead <= hello, 5, name)
		if x["area"] != "" {
			used[x["area"]] = true
		}
	}
	add(kind0 != "normal", 6, "0.0.0.0")
	add(len(used) > 1 && !used["0.0.0.0"], 6, "")
	for name := range areas {
		add(!used[name], 7, name)
	}
	add(len(is) > 8, 8, "")
	slices.SortFunc(l, func(a, b rules.Fault) int {
		if a.Kind != b.Kind {
			return a.Kind - b.Kind
		}
		return strings.Compare(a.Name, b.Name)
	})
	return l
}

// meets tells whether the greater of two nets has the other one's first address.
func meets(a, b string) bool {
	if a == "" || b == "" {
		return false
	}
	first := func(s string) (*big.Int, int) {
		addr, length, _ := strings.Cut(s, "/")
		n := new(big.Int)
		for _, part := range strings.Split(addr, ".") {
			b, _ := strconv.Atoi(part)
			n.Add(n.Mul(n, big.NewInt(256)), big.NewInt(int64(b)))
		}
		size, _ := strconv.Atoi(length)
		return n, size
	}
	x, n := first(a)
	y, m := first(b)
	size := new(big.Int).Exp(big.NewInt(2), big.NewInt(int64(32-min(n, m))), nil)
	return x.Div(x, size).Cmp(y.Div(y, size)) == 0
}

// P8.1: any configurations, beside the table; they stay as they are.
func TestAnyConf(t *testing.T) {
	r := rand.New(rand.NewSource(1))
	some := func(l ...string) string { return l[r.Intn(len(l))] }
	for range 4000 {
		var lines []string
		for range r.Intn(40) {
			name := "interface " + some("a", "b", "c", "D", "e", "f", "g", "h", "i", "a1") + " "
			lines = append(lines, some(
				"router-id "+some("1.1.1.1", "0.0.0.0"),
				"area 0.0.0."+some("0", "1", "2", "10")+" type "+some("normal", "stub", "nssa"),
				"area 0.0.0."+some("0", "1", "2", "10")+" cost 5",
				name+"area 0.0.0."+some("0", "1", "2", "10"),
				name+"area 0.0.0.1",
				name+"address 10."+some("0", "1", "2")+"."+some("0", "64", "128")+".1/"+some("8", "15", "16", "17", "24", "32"),
				name+"dead "+some("5", "9", "40"),
				name+"hello "+some("5", "10", "40"),
				name+"cost 5",
			))
		}
		c := build(t, lines...)
		before := slices.Clone(c)
		l, e := rules.Check(c)
		if want := byTable(c); e != api.OK || !slices.Equal(l, want) {
			t.Fatalf("%q: error %d, %v, want %v", lines, e, l, want)
		}
		if !slices.Equal(c, before) {
			t.Fatal("the configuration is changed")
		}
	}
}
