package plan_test

import (
	"fmt"
	"math/rand"
	"slices"
	"sort"
	"strconv"
	"strings"
	"testing"

	"waystone/api"
	"waystone/conf"
	"waystone/engine"
	"waystone/plan"
)

// leaf is one of an interface: its value, another one, its default, and the word of its action, by the document's two tables.
type leaf struct {
	name, value, other, normal, word string
}

// leaves stand by their Class, the greatest first.
func leaves() []leaf {
	return []leaf{
		{"area", "0.0.0.0", "0.0.0.1", "", "move"},
		{"address", "10.0.0.1/24", "10.0.0.1/25", "", "restart"},
		{"network", "broadcast", "point-to-point", "broadcast", "restart"},
		{"auth", "a", "b", "", "reset"},
		{"dead", "41", "42", "40", "reset"},
		{"hello", "11", "12", "10", "reset"},
		{"cost", "11", "12", "10", "anew"},
		{"priority", "2", "0", "1", "hellos"},
		{"retransmit", "6", "7", "5", "timers"},
	}
}

// P17.1: the example, each leaf with another value, and set or not, also to what it is if it isn't set.
func TestEachLeaf(t *testing.T) {
	// that another interface and an area stay as they are calls for nothing
	const more = "router-id 1.1.1.1; area 0.0.0.0 { type stub; cost 3; } interface f { area 0.0.0.0; cost 9; } interface d { cost 9; }"
	for _, x := range leaves() {
		other := "dead 99"
		if x.name == "dead" {
			other = "cost 99"
		}
		unset := read(t, more+"interface eth0 { "+other+"; }")
		set := "set interface eth0 " + x.name + " "
		want := x.word + " eth0"
		wantEdit(t, unset, set+x.value, want, want)
		wantEdit(t, edited(t, unset, set+x.value), set+x.other, want, want)
		if x.normal != "" {
			wantEdit(t, unset, set+x.normal, want, want)
		}
	}
	wantPlan(t, "the example", read(t, "interface eth0 { cost 5; }"), read(t, "interface eth0 { cost 6; }"), "anew eth0")
}

// P17.1: of all sets of leaves that are other ones, the greatest Class of them tells.
func TestGreatestClass(t *testing.T) {
	all := leaves()
	for set := range 1 << len(all) {
		a, b, want := "interface e { ", "interface e { ", ""
		for i, x := range all {
			value := x.value
			if set>>i&1 > 0 {
				value = x.other
				if want == "" {
					want = x.word + " e"
				}
			}
			a += x.name + " " + x.value + "; "
			b += x.name + " " + value + "; "
		}
		wantPlan(t, fmt.Sprint(set), read(t, a+"}"), read(t, b+"}"), want)
	}
}

// P17.1: another router-id lets all begin anew, and nothing else is to be done then; if there is no interface yet, it is nothing.
func TestWhole(t *testing.T) {
	a := read(t, "router-id 1.1.1.1; area 0.0.0.0 { cost 5; type stub; } interface e { area 0.0.0.0; cost 5; } interface f { area 0.0.0.0; }")
	more := "; set interface e area 0.0.0.1; set interface f address 10.0.0.1/8; set interface g cost 1; set area 0.0.0.0 cost 6; delete area 0.0.0.0 type"
	for _, s := range []string{"set router-id 1.1.1.2", "set router-id 0.0.0.0", "delete router-id"} {
		wantEdit(t, a, s, "whole", "whole")
		wantEdit(t, a, s+more, "whole", "whole")
		wantEdit(t, a, s+"; delete interface e", "whole", "whole")
		// only one of both has interfaces
		wantEdit(t, a, s+"; delete interface e; delete interface f", "whole", "start e, start f")
		wantEdit(t, a, s+"; delete interface e; delete interface f; set area 0.0.0.0 cost 6", "whole", "start e, start f, anew 0.0.0.0")
	}
	unset := edited(t, a, "delete router-id")
	wantEdit(t, unset, "set router-id 0.0.0.0", "whole", "whole")
	alone := read(t, "area 0.0.0.0 { cost 5; type stub; }")
	wantEdit(t, alone, "set router-id 1.1.1.1", "", "")
	wantEdit(t, alone, "set router-id 1.1.1.1; set area 0.0.0.0 cost 6; delete area 0.0.0.0 type", "anew 0.0.0.0", "anew 0.0.0.0")
	wantEdit(t, a, more[2:], "move e, restart f, start g, anew 0.0.0.0", "stop g, move e, restart f, anew 0.0.0.0")
	l, _ := plan.Make(a, edited(t, a, "delete router-id"+more))
	if !slices.Equal(l, []plan.Action{{Kind: plan.Whole}}) {
		t.Errorf("%v", l)
	}
}

// P17.1: an interface of which only one has lines, whatever lines.
func TestStopAndStart(t *testing.T) {
	a := read(t, "interface e { cost 5; }")
	for _, x := range leaves() {
		wantEdit(t, a, "set interface f "+x.name+" "+x.value, "start f", "stop f")
		wantEdit(t, nil, "set interface f "+x.name+" "+x.value, "start f", "stop f")
	}
	wantEdit(t, a, "set interface f cost 5; delete interface e", "stop e, start f", "stop f, start e")
	wantEdit(t, a, "set interface E cost 5; delete interface e", "stop e, start E", "stop E, start e")
	wantEdit(t, a, "set interface e2 cost 5; set interface e dead 3", "reset e, start e2", "stop e2, reset e")
}

// P17.1: another type lets the interfaces begin anew that have the area before and behind, and have nothing greater to be done.
func TestTypes(t *testing.T) {
	const faces = "interface a { area 0.0.0.1; cost 5; } interface b { area 0.0.0.1; } interface c { area 0.0.0.10; } interface d { cost 5; } interface e { area 0.0.0.0; }"
	a := read(t, faces+"area 0.0.0.1 { type stub; }")
	for _, s := range []string{"set area 0.0.0.1 type nssa", "set area 0.0.0.1 type normal", "delete area 0.0.0.1"} {
		wantEdit(t, a, s, "reset a, reset b", "reset a, reset b")
		wantEdit(t, a, s+"; set area 0.0.0.1 cost 1", "reset a, reset b, anew 0.0.0.1", "reset a, reset b, anew 0.0.0.1")
	}
	wantEdit(t, read(t, faces), "set area 0.0.0.1 type normal", "reset a, reset b", "reset a, reset b")
	wantEdit(t, a, "set area 0.0.0.2 type stub", "", "")
	wantEdit(t, a, "set area 0.0.0.10 type stub", "reset c", "reset c")
	wantEdit(t, a, "delete area 0.0.0.1; set area 0.0.0.0 type nssa; set area 0.0.0.10 type nssa", "reset a, reset b, reset c, reset e", "reset a, reset b, reset c, reset e")
	for _, x := range []struct{ command, want, back string }{
		// what is more than a Reset
		{"set interface a area 0.0.0.10", "move a, reset b", "move a, reset b"},
		{"delete interface a area", "move a, reset b", "move a, reset b"},
		{"set interface c area 0.0.0.1", "move c, reset a, reset b", "move c, reset a, reset b"},
		{"set interface d area 0.0.0.1", "move d, reset a, reset b", "move d, reset a, reset b"},
		{"set interface a address 10.0.0.1/8", "restart a, reset b", "restart a, reset b"},
		{"set interface b network broadcast", "restart b, reset a", "restart b, reset a"},
		{"delete interface a", "stop a, reset b", "reset b, start a"},
		{"set interface g area 0.0.0.1", "reset a, reset b, start g", "stop g, reset a, reset b"},
		// what is a Reset, or less
		{"set interface a auth x", "reset a, reset b", "reset a, reset b"},
		{"set interface a cost 6", "reset a, reset b", "reset a, reset b"},
		{"set interface b priority 6; set interface a retransmit 9", "reset a, reset b", "reset a, reset b"},
		{"set interface c cost 6; set interface d retransmit 6; set interface e priority 9", "reset a, reset b, anew c, hellos e, timers d", "reset a, reset b, anew c, hellos e, timers d"},
	} {
		wantEdit(t, a, "set area 0.0.0.1 type nssa; "+x.command, x.want, x.back)
	}
}

// P17.1: another cost of an area is told anew, whoever stands in it; its interfaces have nothing to be done.
func TestCosts(t *testing.T) {
	for _, faces := range []string{"", "interface a { area 0.0.0.1; cost 5; }"} {
		a := read(t, faces+"area 0.0.0.1 { cost 5; type stub; } area 0.0.0.10 { cost 6; }")
		wantEdit(t, a, "set area 0.0.0.1 cost 6", "anew 0.0.0.1", "anew 0.0.0.1")
		wantEdit(t, a, "delete area 0.0.0.1 cost", "anew 0.0.0.1", "anew 0.0.0.1")
		wantEdit(t, a, "set area 0.0.0.9 cost 1", "anew 0.0.0.9", "anew 0.0.0.9")
		wantEdit(t, a, "delete area 0.0.0.1 cost; delete area 0.0.0.10", "anew 0.0.0.1, anew 0.0.0.10", "anew 0.0.0.1, anew 0.0.0.10")
	}
}

// P17.1: by Kind, then by Name as texts are; each once, also where an interface is named as an area is.
func TestOrderAndNames(t *testing.T) {
	a := read(t, "interface e2 { cost 5; dead 5; } interface e10 { cost 5; dead 5; } interface E { cost 5; dead 5; } interface 9 { cost 5; } interface _ { cost 5; }")
	wantEdit(t, a, "set interface e2 cost 6; set interface e10 cost 6; set interface E cost 6; set interface 9 cost 6; set interface _ cost 6; set area 1.0.0.0 cost 6; set area 9.0.0.0 cost 6",
		"anew 1.0.0.0, anew 9, anew 9.0.0.0, anew E, anew _, anew e10, anew e2", "anew 1.0.0.0, anew 9, anew 9.0.0.0, anew E, anew _, anew e10, anew e2")
	wantEdit(t, a, "delete interface e2; set interface e10 area 0.0.0.0; set interface E network broadcast; set interface 9 auth 9; set interface a cost 1; set interface _ retransmit 1; set interface 9 priority 1",
		"stop e2, move e10, restart E, reset 9, start a, timers _", "stop a, move e10, restart E, reset 9, start e2, timers _")
	named := read(t, "interface 0.0.0.1 { area 0.0.0.1; cost 5; } interface 0.0.0.2 { cost 5; } area 0.0.0.1 { cost 5; } area 0.0.0.2 { cost 5; }")
	costs := "set area 0.0.0.1 cost 6; set area 0.0.0.2 cost 6; "
	wantEdit(t, named, costs+"set interface 0.0.0.1 cost 6; set interface 0.0.0.2 cost 6", "anew 0.0.0.1, anew 0.0.0.2", "anew 0.0.0.1, anew 0.0.0.2")
	wantEdit(t, named, costs+"set interface 0.0.0.1 priority 6; set interface 0.0.0.2 dead 6", "reset 0.0.0.2, anew 0.0.0.1, anew 0.0.0.2, hellos 0.0.0.1", "reset 0.0.0.2, anew 0.0.0.1, anew 0.0.0.2, hellos 0.0.0.1")
	wantEdit(t, named, costs+"set area 0.0.0.1 type nssa; set interface 0.0.0.1 cost 6; set area 0.0.0.2 type stub", "reset 0.0.0.1, anew 0.0.0.1, anew 0.0.0.2", "reset 0.0.0.1, anew 0.0.0.1, anew 0.0.0.2")
	wantEdit(t, named, costs+"delete interface 0.0.0.1; delete interface 0.0.0.2 cost", "stop 0.0.0.1, stop 0.0.0.2, anew 0.0.0.1, anew 0.0.0.2", "start 0.0.0.1, start 0.0.0.2, anew 0.0.0.1, anew 0.0.0.2")
}

// P17.1: as many lines as may be.
func TestFullConfs(t *testing.T) {
	var a, b conf.Conf
	var stops, starts []string
	for i := range api.MaxLines {
		name := strconv.Itoa(100 + i)
		a = append(a, conf.Line{Head: api.Interface, Name: "a" + name, Leaf: "cost", Value: "5"})
		b = append(b, conf.Line{Head: api.Interface, Name: "b" + name, Leaf: "cost", Value: "5"})
		stops, starts = append(stops, "stop a"+name), append(starts, "start b"+name)
	}
	wantPlan(t, "64 others", a, b, strings.Join(append(slices.Clone(stops), starts...), ", "))
	wantPlan(t, "none", a, nil, strings.Join(stops, ", "))
	wantPlan(t, "64 at once", nil, b, strings.Join(starts, ", "))
	wantPlan(t, "the same", a, a, "")
}

// P17.1, P1: what isn't Right has no plan, on whichever side, also where both are alike.
func TestMakeOfWhatIsntRight(t *testing.T) {
	right := read(t, "router-id 1.1.1.1; interface e { cost 5; }")
	long := conf.Conf{}
	for i := range api.MaxLines + 1 {
		long = append(long, conf.Line{Head: api.Interface, Name: strconv.Itoa(100 + i), Leaf: "cost", Value: "5"})
	}
	for what, c := range map[string]conf.Conf{
		"65 lines":      long,
		"lines fall":    {right[1], right[0]},
		"a line twice":  {right[1], right[1]},
		"a wrong value": {{Head: api.Interface, Name: "e", Leaf: "cost", Value: "0"}},
		"a wrong name":  {{Head: api.Interface, Name: "e/", Leaf: "cost", Value: "5"}},
		"no leaf":       {{Head: api.Interface, Name: "e"}},
		"no head":       {{Head: 3, Name: "e", Leaf: "cost", Value: "5"}},
		"nothing":       {{}},
	} {
		for _, pair := range [][2]conf.Conf{{c, right}, {right, c}, {c, nil}, {nil, c}, {c, c}} {
			if l, e := plan.Make(pair[0], pair[1]); e != api.ErrArg || len(l) != 0 {
				t.Errorf("%s: %v, error %d", what, l, e)
			}
		}
	}
}

// P17.2
func TestToItself(t *testing.T) {
	r := rand.New(rand.NewSource(171))
	wantPlan(t, "nothing", nil, conf.Conf{}, "")
	for range 1000 {
		c := anyConf(r)
		wantPlan(t, fmt.Sprint(c), c, slices.Clone(c), "")
		if l, _ := plan.Make(c, c); len(l) != 0 {
			t.Fatalf("%v: %v", c, l)
		}
	}
}

// values are a head's lines by name and leaf.
func values(c conf.Conf, head int) map[string]map[string]string {
	all := map[string]map[string]string{}
	for _, l := range c {
		if l.Head == head {
			if all[l.Name] == nil {
				all[l.Name] = map[string]string{}
			}
			all[l.Name][l.Leaf] = l.Value
		}
	}
	return all
}

// byTable tells a plan by another way than the program's: all that each sentence of the document asks for, of which what is least stays.
func byTable(a, b conf.Conf) string {
	faceA, faceB, areaA, areaB := values(a, api.Interface), values(b, api.Interface), values(a, api.Area), values(b, api.Area)
	one, set := values(a, api.Top)[""]["router-id"], values(b, api.Top)[""]["router-id"]
	if one != set && len(faceA) > 0 {
		return "whole"
	}
	rank := []string{"stop", "move", "restart", "reset", "start", "anew", "hellos", "timers"}
	var l []string
	for i, word := range rank {
		for _, name := range names(faceA, faceB) {
			asked := ofOne(faceA[name], faceB[name], areaA, areaB)
			least := slices.IndexFunc(rank, func(s string) bool { return slices.Contains(asked, s) })
			if least == i {
				l = append(l, fmt.Sprint(i, word, " ", name))
			}
		}
		for _, name := range names(areaA, areaB) {
			if word == "anew" && areaA[name]["cost"] != areaB[name]["cost"] {
				l = append(l, fmt.Sprint(i, word, " ", name))
			}
		}
	}
	sort.Strings(l)
	l = slices.Compact(l)
	for i := range l {
		l[i] = l[i][1:]
	}
	return strings.Join(l, ", ")
}

// names are those that one of both has.
func names(a, b map[string]map[string]string) []string {
	var l []string
	for name := range a {
		l = append(l, name)
	}
	for name := range b {
		if a[name] == nil {
			l = append(l, name)
		}
	}
	return l
}

// ofOne is all that is asked for of an interface.
func ofOne(a, b map[string]string, areaA, areaB map[string]map[string]string) []string {
	switch {
	case a == nil:
		return []string{"start"}
	case b == nil:
		return []string{"stop"}
	}
	var asked []string
	for _, x := range leaves() {
		if a[x.name] != b[x.name] {
			asked = append(asked, x.word)
		}
	}
	if area := a["area"]; area == b["area"] && areaA[area]["type"] != areaB[area]["type"] {
		asked = append(asked, "reset")
	}
	return asked
}

// P17.1: from any configuration to any, near it or far.
func TestAnyPlans(t *testing.T) {
	r := rand.New(rand.NewSource(172))
	for range 4000 {
		a, b := anyConf(r), anyConf(r)
		if r.Intn(3) > 0 {
			b = near(r, a)
		}
		wantPlan(t, fmt.Sprintf("from %v to %v", a, b), a, b, byTable(a, b))
		if t.Failed() {
			return
		}
	}
}

func wantBegins(t *testing.T, l []plan.Action, want engine.Restart) {
	t.Helper()
	r := plan.Begins(l)
	if !slices.Equal(r.Resets, want.Resets) || !slices.Equal(r.Restarts, want.Restarts) || r.Whole != want.Whole {
		t.Errorf("%v: %v, want %v", l, r, want)
	}
}

// P17.1: each Kind alone, all together, of a plan that is made, and of lists that are none's.
func TestBegins(t *testing.T) {
	wantBegins(t, nil, engine.Restart{})
	for kind := -1; kind < 12; kind++ {
		var want engine.Restart
		switch kind {
		case 1:
			want.Whole = true
		case 3, 4:
			want.Restarts = []string{"e"}
		case 5:
			want.Resets = []string{"e"}
		}
		wantBegins(t, []plan.Action{{Kind: kind, Name: "e"}}, want)
	}
	a := read(t, "interface a { cost 5; } interface b { cost 5; } interface c { cost 5; } interface d { cost 5; } interface e { cost 5; } interface f { cost 5; } interface g { cost 5; }")
	l, _ := plan.Make(a, edited(t, a, "set interface a dead 3; set interface b auth x; set interface c network broadcast; set interface d area 0.0.0.0; set interface e priority 3; delete interface f; set interface h cost 5; set interface g cost 6; set area 0.0.0.0 cost 3"))
	wantBegins(t, l, engine.Restart{Resets: []string{"a", "b"}, Restarts: []string{"d", "c"}})
	wantBegins(t, []plan.Action{{Kind: plan.Reset, Name: "z"}, {Kind: plan.Restart, Name: "y"}, {Kind: plan.Whole}, {Kind: plan.Reset, Name: "a"}, {Kind: plan.Move, Name: "b"}, {Kind: plan.Whole}},
		engine.Restart{Resets: []string{"z", "a"}, Restarts: []string{"y", "b"}, Whole: true})
}

// P17.1: the word of each Kind, with a Name and without, and of what is no Kind.
func TestText(t *testing.T) {
	if s := plan.Text(nil); s != "" {
		t.Errorf("of nothing: %q", s)
	}
	words := map[int]string{1: "whole", 2: "stop", 3: "move", 4: "restart", 5: "reset", 6: "start", 7: "anew", 8: "hellos", 9: "timers"}
	all, want := []plan.Action(nil), ""
	for _, kind := range []int{1, 2, 3, 4, 5, 6, 7, 8, 9, 0, 10, -1, 256, -1 << 62, 1<<62 + 1} {
		word := words[kind]
		if word == "" {
			word = "?"
		}
		all = append(all, plan.Action{Kind: kind}, plan.Action{Kind: kind, Name: "a b"})
		want += word + "\n" + word + " a b\n"
	}
	if s := plan.Text(all); s != want {
		t.Errorf("%q, want %q", s, want)
	}
}

// P1: any lines, and any actions.
func TestAnythingEnds(t *testing.T) {
	r := rand.New(rand.NewSource(173))
	text := func() string {
		return some(r, "", "a", "0.0.0.0", "1.1.1.1", "10.0.0.1/24", "address", "area", "router-id", "cost", "type", "stub", "\x00", "9", "é")
	}
	lines := func() conf.Conf {
		var c conf.Conf
		for range r.Intn(5) {
			c = append(c, conf.Line{Head: r.Intn(5) - 1, Name: text(), Leaf: text(), Value: text()})
		}
		return c
	}
	for range 5000 {
		a, b := lines(), lines()
		l, e := plan.Make(a, b)
		want := api.OK
		if !conf.Right(a) || !conf.Right(b) {
			want = api.ErrArg
		}
		if e != want {
			t.Fatalf("%v, %v: %v, error %d", a, b, l, e)
		}
		for range r.Intn(3) {
			l = append(l, plan.Action{Kind: r.Intn(13) - 1, Name: text()})
		}
		plan.Begins(l)
		plan.Text(l)
	}
}

// P17.1: what is handed in stays as it is, its spare room too; what is done with an answer changes no other one.
func TestNothingIsShared(t *testing.T) {
	r := rand.New(rand.NewSource(174))
	for range 300 {
		a := anyConf(r)
		b := near(r, a)
		first, second := slices.Grow(slices.Clone(a), 3), slices.Grow(slices.Clone(b), 3)
		l, _ := plan.Make(first, second)
		want := plan.Text(l)
		wantBare(t, first[:cap(first)], a)
		wantBare(t, second[:cap(second)], b)
		clear(first)
		clear(second)
		again, _ := plan.Make(a, b)
		spare := slices.Grow(slices.Clone(again), 3)
		begins := plan.Begins(spare)
		clear(again[:cap(again)])
		if plan.Text(l) != want || plan.Text(spare) != want {
			t.Fatalf("%v, want %s", l, want)
		}
		wantBare(t, spare[:cap(spare)], l)
		clear(spare)
		wantBegins(t, l, begins)
		_ = append(begins.Resets, "spoiled")
		clear(begins.Restarts[:cap(begins.Restarts)])
		begins.Restarts = plan.Begins(l).Restarts
		wantBegins(t, l, begins)
	}
}

// wantBare asks for just what is wanted, and noughts behind it.
func wantBare[T comparable](t *testing.T, got, want []T) {
	t.Helper()
	var nought T
	for i, x := range got {
		if i < len(want) && x != want[i] || i >= len(want) && x != nought {
			t.Fatalf("what was handed in is changed: %v, was %v", got, want)
		}
	}
}
