package plan_test

import (
	"fmt"
	"math/rand"
	"slices"
	"strings"
	"testing"

	"waystone/adv"
	"waystone/api"
	"waystone/conf"
	"waystone/engine"
	"waystone/plan"
	"waystone/rules"
	"waystone/sync"
)

// nets are routers whose interfaces of the same name are on the same network; what one sends comes at once, in order.
type nets struct {
	t         *testing.T
	routers   []*engine.Engine
	addresses map[*engine.Engine]map[string]uint32 // by interfaces; to ask for each packet would take long
}

func newNets(t *testing.T, texts ...string) *nets {
	t.Helper()
	w := &nets{t: t, addresses: map[*engine.Engine]map[string]uint32{}}
	for _, text := range texts {
		e, err := engine.New(read(t, text))
		if err != api.OK {
			t.Fatalf("%q: error %d", text, err)
		}
		w.routers = append(w.routers, e)
		w.join(e)
	}
	return w
}

// join lets a router stand on its networks, and on no other ones.
func (w *nets) join(e *engine.Engine) {
	w.addresses[e] = map[string]uint32{}
	for _, name := range conf.Names(e.Conf(), api.Interface) {
		s, _ := adv.Settings(e.Conf(), name)
		w.addresses[e][name] = s.Addr
	}
}

// send brings packets to where they go, and what is sent then.
func (w *nets) send(from *engine.Engine, out []engine.Out) {
	for _, o := range out {
		source := w.addresses[from][o.Face]
		for _, e := range w.routers {
			if at := w.addresses[e][o.Face]; e != from && at != 0 && (o.To == 0 || o.To == at) {
				// between unlike configurations much is refused, as it should be
				more, _ := e.Take(o.Face, source, o.Text)
				w.send(e, more)
			}
		}
	}
}

func (w *nets) tick(n int) {
	for range n {
		for _, e := range w.routers {
			w.send(e, e.Tick())
		}
	}
}

// change hands another configuration to a router by its plan, and tells the plan.
func (w *nets) change(e *engine.Engine, c conf.Conf) []plan.Action {
	w.t.Helper()
	l, err := plan.Make(e.Conf(), c)
	if err != api.OK {
		w.t.Fatalf("Make from %v to %v: error %d", e.Conf(), c, err)
	}
	out, err := e.Change(c, plan.Begins(l))
	if err != api.OK {
		w.t.Fatalf("Change to %v: error %d", c, err)
	}
	w.join(e)
	w.send(e, out)
	return l
}

// full are a router's neighbors to whom it is Full.
func full(e *engine.Engine) []engine.Seen {
	return slices.DeleteFunc(e.Seen(), func(s engine.Seen) bool { return s.State != sync.Full })
}

// fulls are the interfaces on which they are.
func fulls(e *engine.Engine) string {
	var l []string
	for _, s := range full(e) {
		l = append(l, s.Face)
	}
	return strings.Join(l, " ")
}

// lets tells whether a plan has an action by which the neighbors on an interface fall.
func lets(l []plan.Action, face string) bool {
	return slices.ContainsFunc(l, func(x plan.Action) bool {
		return x.Kind == plan.Whole || x.Kind >= plan.Stop && x.Kind <= plan.Reset && x.Name == face
	})
}

// onTwo is a router on two networks of two areas.
func onTwo(i int) string {
	face := "interface %s { area 0.0.0.%d; address 10.0.%d.%d/24; hello 1; dead 4; }\n"
	return fmt.Sprintf("router-id 1.1.1.%d;\n"+face+face, i, "e", 0, 0, i, "f", 1, 1, i)
}

// P17.3, P5: of two that are Full on two networks, one takes another configuration: they stay Full, and go on so, where nothing begins anew, and fall elsewhere.
func TestFullThroughAPlan(t *testing.T) {
	for _, x := range []struct{ commands, plan, stay string }{
		{"set interface e cost 77", "anew e", "e f"},
		{"set interface f retransmit 3", "timers f", "e f"},
		{"set interface e priority 9", "hellos e", "e f"},
		{"set interface e priority 0", "hellos e", "e f"},
		{"set area 0.0.0.1 cost 3", "anew 0.0.0.1", "e f"},
		{"set area 0.0.0.0 type normal", "reset e", "f"},
		{"set area 0.0.0.1 type stub", "reset f", "e"},
		{"set interface e dead 5; set interface f cost 3", "reset e, anew f", "f"},
		{"set interface f hello 2", "reset f", "e"},
		{"set interface f auth key; set interface e retransmit 1", "reset f, timers e", "e"},
		{"set interface e network point-to-point", "restart e", "f"},
		{"set interface e address 10.0.0.99/24", "restart e", "f"},
		{"set interface f area 0.0.0.0", "move f", "e"},
		{"delete interface f", "stop f", "e"},
		{"set interface g area 0.0.0.0; set interface g address 10.9.0.1/24", "start g", "e f"},
		{"set interface f area 0.0.0.0; delete interface e; set interface g area 0.0.0.0; set interface g address 10.0.0.1/24", "stop e, move f, start g", ""},
		{"set router-id 1.1.1.3", "whole", ""},
	} {
		for i := range 2 {
			w := newNets(t, onTwo(1), onTwo(2))
			w.tick(12)
			e := w.routers[i]
			if fulls(e) != "e f" {
				t.Fatalf("at first: %v", e.Seen())
			}
			l := w.change(e, edited(t, e.Conf(), x.commands))
			if got := strings.Join(lines(plan.Text(l)), ", "); got != x.plan || fulls(e) != x.stay {
				t.Errorf("%s: %s, Full on %q", x.commands, got, fulls(e))
			}
			for range 12 {
				w.tick(1)
				for _, face := range strings.Fields(x.stay) {
					if !strings.Contains(fulls(e), face) || !strings.Contains(fulls(w.routers[1-i]), face) {
						t.Errorf("%s: then Full on %q, and %q", x.commands, fulls(e), fulls(w.routers[1-i]))
					}
				}
			}
		}
	}
}

// anyNets are three or four routers, each on the first of three networks, and perhaps on others.
func anyNets(t *testing.T, r *rand.Rand) *nets {
	t.Helper()
	var more []string
	for i := range 3 {
		more = append(more, fmt.Sprintf("area 0.0.0.%d; hello 1; dead %d; network %s;", []int{0, 0, 7}[i], 3+r.Intn(3), some(r, "broadcast", "broadcast", "point-to-point")))
	}
	var texts []string
	for i := range 3 + r.Intn(2) {
		text := fmt.Sprintf("router-id %s.1.1.%d; area 0.0.0.0 { cost 5; }\n", some(r, "1", "200"), i)
		for j := range 3 {
			if j == 0 || r.Intn(3) > 0 {
				text += fmt.Sprintf("interface %s { address 10.%d.0.%d/16; priority %d; %s }\n", []string{"x", "y", "z"}[j], j, 1+i, 1+r.Intn(3), more[j])
			}
		}
		texts = append(texts, text)
	}
	return newNets(t, texts...)
}

// anyUsable is a configuration that may be used, of which some lines are other ones than now.
func anyUsable(t *testing.T, r *rand.Rand, c conf.Conf) conf.Conf {
	t.Helper()
	for {
		d := c
		for range 1 + r.Intn(3) {
			// what can't be deleted is no loss
			if x := anyEdit(t, r, d); x != nil {
				d = x
			}
		}
		if l, e := rules.Check(d); e == api.OK && len(l) == 0 {
			return d
		}
	}
}

func anyEdit(t *testing.T, r *rand.Rand, c conf.Conf) conf.Conf {
	t.Helper()
	face := some(r, "x", "y", "z")
	area := some(r, "0.0.0.0", "0.0.0.7")
	number, priority := fmt.Sprint(1+r.Intn(6)), fmt.Sprint(r.Intn(3))
	set := "set interface " + face + " "
	switch r.Intn(16) {
	case 0:
		return edited(t, c, "set router-id 7.7.7."+number)
	case 1:
		c, _ = conf.Delete(c, api.Interface, face, "")
		return c
	case 2:
		return edited(t, c, set+"area "+area)
	case 3:
		return edited(t, c, set+"address 10."+fmt.Sprint(slices.Index([]string{"x", "y", "z"}, face))+".9."+number+"/16")
	case 4:
		return edited(t, c, "set area "+area+" type "+some(r, "normal", "stub", "nssa"))
	case 5, 6:
		return edited(t, c, "set area "+area+" cost "+number)
	case 7:
		return edited(t, c, set+some(r, "network broadcast", "network point-to-point"))
	case 8, 9:
		return edited(t, c, set+some(r, "auth ", "dead ", "hello ")+number)
	case 10:
		c, _ = conf.Delete(c, api.Interface, face, some(r, "auth", "priority", "cost", "retransmit"))
		return c
	}
	return edited(t, c, set+some(r, "priority "+priority, "cost "+number, "retransmit "+number))
}

// mayFall tells whether the network itself may end that they are Full: one that gives up its priority speaks for it no more.
func mayFall(a, b conf.Conf, face string) bool {
	priority := func(c conf.Conf) string { return conf.Value(c, api.Interface, face, "priority") }
	return priority(a) != "0" && priority(b) == "0" && conf.Value(b, api.Interface, face, "network") == "broadcast"
}

// P17.3, P5: of any routers one takes any other configuration: its neighbors leave Full just where the plan lets them, then and in the ticks behind it.
func TestFullThroughAnyPlan(t *testing.T) {
	r := rand.New(rand.NewSource(175))
	stayed, fell := 0, 0
	for range 60 {
		w := anyNets(t, r)
		w.tick(20)
		e := w.routers[r.Intn(len(w.routers))]
		before, was := full(e), e.Conf()
		if len(before) == 0 {
			t.Fatalf("at first: %v", e.Seen())
		}
		c := anyUsable(t, r, was)
		l := w.change(e, c)
		told := fmt.Sprintf("from %v to %v: %s", was, c, plan.Text(l))
		var stay []engine.Seen
		for _, s := range before {
			switch {
			case lets(l, s.Face):
				fell++
			case !mayFall(was, c, s.Face):
				stay = append(stay, s)
			case !slices.ContainsFunc(e.Seen(), func(x engine.Seen) bool {
				return x.Face == s.Face && x.Addr == s.Addr && (x.State == sync.Full || x.State == sync.TwoWay)
			}):
				t.Fatalf("%s: %v, was %v", told, e.Seen(), s)
			}
		}
		stayed += len(stay)
		for n := range 8 {
			for _, s := range stay {
				if !slices.Contains(e.Seen(), s) {
					t.Fatalf("%s: %d ticks behind it %v, want %v", told, n, e.Seen(), s)
				}
			}
			w.tick(1)
		}
	}
	if stayed < 60 || fell < 60 {
		t.Errorf("%d stayed, %d fell", stayed, fell)
	}
}
