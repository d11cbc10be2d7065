package box_test

import (
	"fmt"
	"math/rand"
	"slices"
	"strings"
	"testing"

	"waystone/adv"
	"waystone/api"
	"waystone/box"
	"waystone/conf"
	"waystone/disk"
	"waystone/engine"
	"waystone/lsa"
	"waystone/plan"
	"waystone/sync"
)

// node is a box on networks, beside which a model and a router are told the same.
type node struct {
	t    *testing.T
	d    *disk.Disk
	b    *box.Box
	m    *model
	twin *engine.Engine
}

func newNode(t *testing.T, half int) *node {
	t.Helper()
	d, b := begun(t, 2+2*half, "")
	twin, _ := engine.New(nil)
	return &node{t: t, d: d, b: b, m: newModel(half), twin: twin}
}

// change lets the twin take what the model runs now, if that is something else than ahead.
func (n *node) change(ahead int) []engine.Out {
	n.t.Helper()
	if len(n.m.ran) == ahead {
		return nil
	}
	return n.changeTo(n.m.ran[len(n.m.ran)-2], n.m.running())
}

func (n *node) changeTo(from, to conf.Conf) []engine.Out {
	n.t.Helper()
	l, e := plan.Make(from, to)
	wantErrno(n.t, "plan.Make", e, api.OK)
	out, e := n.twin.Change(to, plan.Begins(l))
	wantErrno(n.t, "Change", e, api.OK)
	return out
}

// do does a command, and asks that all is told and sent as the document says.
func (n *node) do(command string) []engine.Out {
	n.t.Helper()
	ahead := len(n.m.ran)
	told, out, e := n.b.Do(command)
	wantTold, wantErr := n.m.do(command)
	if told != wantTold || e != wantErr {
		n.t.Fatalf("%s: %q, error %d, want %q, error %d", command, told, e, wantTold, wantErr)
	}
	n.check(command, out, n.change(ahead))
	return out
}

func (n *node) tick() []engine.Out {
	n.t.Helper()
	ahead := len(n.m.ran)
	out, e := n.b.Tick()
	_, wantErr := n.m.do("tick")
	wantErrno(n.t, "Tick", e, wantErr)
	sent := n.change(ahead)
	if e == api.OK {
		sent = append(sent, n.twin.Tick()...)
	}
	n.check("Tick", out, sent)
	return out
}

func (n *node) take(face string, from uint32, text []byte) []engine.Out {
	n.t.Helper()
	out, e := n.b.Take(face, from, text)
	sent, wantErr := n.twin.Take(face, from, text)
	wantErrno(n.t, "Take", e, wantErr)
	n.check("Take", out, sent)
	return out
}

// crash lets power go, and opens the box again: its router is told entry by entry.
func (n *node) crash() {
	n.t.Helper()
	n.d.Crash(nil)
	before, ahead := slices.Clone(n.m.written), len(n.m.ran)
	n.m.crash()
	n.b = opened(n.t, n.d)
	n.twin, _ = engine.New(nil)
	var runs conf.Conf
	for _, s := range before {
		if s[0] == 3 {
			continue
		}
		at := 1
		if s[0] == 2 {
			at = 3
		}
		c, e := conf.Get([]byte(s[at:]))
		wantErrno(n.t, "conf.Get", e, api.OK)
		n.changeTo(runs, c)
		runs = c
	}
	n.change(ahead)
	n.check("Open", nil, nil)
}

// check asks whether the box sent, stands and has written as the model and the twin.
func (n *node) check(what string, out, want []engine.Out) {
	n.t.Helper()
	if !sameOuts(out, want) {
		n.t.Fatalf("%s: sent\n%v\nwant\n%v", what, out, want)
	}
	if runs(n.b) != n.m.runs() || n.b.Pending() != n.m.left || line(n.b.Candidate()) != line(n.m.candidate) {
		n.t.Fatalf("%s: %s, Pending %d, Candidate %v\nwant %s, Pending %d, Candidate %v",
			what, runs(n.b), n.b.Pending(), n.b.Candidate(), n.m.runs(), n.m.left, n.m.candidate)
	}
	if got := texts(entries(n.t, n.d)); !slices.Equal(got, n.m.written) {
		n.t.Fatalf("%s: %q\nwant %q", what, got, n.m.written)
	}
	if got, want := routerStands(n.b.Engine()), routerStands(n.twin); got != want {
		n.t.Fatalf("%s: %s\nwant %s", what, got, want)
	}
}

func routerStands(e *engine.Engine) string {
	return fmt.Sprint(e.Conf(), e.Seen(), e.Faces(), e.Heads(0), e.Heads(1))
}

// nets are boxes whose interfaces of the same name are on the same network; what one sends comes at once, in order.
type nets struct {
	nodes []*node
}

// send brings packets to where they go, and what is sent then. Between unlike configurations that may have no end.
func (w *nets) send(from *node, out []engine.Out) {
	type onWay struct {
		from *node
		out  []engine.Out
	}
	way := []onWay{{from, out}}
	for steps := 0; len(way) > 0 && steps < 300; steps++ {
		x := way[0]
		way = way[1:]
		for _, o := range x.out {
			set, _ := adv.Settings(x.from.b.Running(), o.Face)
			for _, n := range w.nodes {
				to, e := adv.Settings(n.b.Running(), o.Face)
				if n != x.from && e == api.OK && (o.To == 0 || o.To == to.Addr) {
					way = append(way, onWay{n, n.take(o.Face, set.Addr, o.Text)})
				}
			}
		}
	}
}

func (w *nets) do(i int, commands string) {
	for _, s := range strings.Split(commands, ";") {
		w.send(w.nodes[i], w.nodes[i].do(s))
	}
}

func (w *nets) tick(count int) {
	for range count {
		for _, n := range w.nodes {
			w.send(n, n.tick())
		}
	}
}

// fulls are the neighbors to whom a box is Full, by interfaces.
func (n *node) fulls() string {
	var l []string
	for _, s := range n.b.Engine().Seen() {
		if s.State == sync.Full {
			l = append(l, fmt.Sprintf("%s:%d", s.Face, s.Id))
		}
	}
	return strings.Join(l, " ")
}

// router is the i-th router, on the networks e and f, as commands.
func router(i int) string {
	all := fmt.Sprintf("set router-id 0.0.0.%d", i)
	for j, name := range []string{"e", "f"} {
		all += fmt.Sprintf(";set interface %s area 0.0.0.%d;set interface %s address 10.0.%d.%d/24;set interface %s hello 1;set interface %s dead 4", name, j, name, j, i, name, name)
	}
	return all
}

// fullNets are two routers that are Full on both networks.
func fullNets(t *testing.T) *nets {
	t.Helper()
	w := &nets{nodes: []*node{newNode(t, 300), newNode(t, 300)}}
	for i := range w.nodes {
		w.do(i, router(i+1)+";commit")
	}
	w.tick(12)
	wantFulls(t, "at first", w, "e:2 f:2", "e:1 f:1")
	return w
}

func wantFulls(t *testing.T, what string, w *nets, want ...string) {
	t.Helper()
	for i, s := range want {
		if got := w.nodes[i].fulls(); got != s {
			t.Errorf("%s: box %d is Full to %q, want %q", what, i, got, s)
		}
	}
}

// wantSame asks that all have the same in an area, and that each tells of itself what follows from what runs there.
func wantSame(t *testing.T, what string, w *nets) {
	t.Helper()
	for area := range uint32(2) {
		for _, n := range w.nodes[1:] {
			ages := func(h lsa.Header) lsa.Header { h.Age = 0; return h }
			if !slices.EqualFunc(n.b.Engine().Heads(area), w.nodes[0].b.Engine().Heads(area), func(a, b lsa.Header) bool { return ages(a) == ages(b) }) {
				t.Errorf("%s: area %d: %v, and %v", what, area, n.b.Engine().Heads(area), w.nodes[0].b.Engine().Heads(area))
			}
		}
	}
	for _, n := range w.nodes {
		told, e := adv.All(n.b.Running(), n.b.Engine().Faces())
		wantErrno(t, what, e, api.OK)
		for _, o := range told {
			if l, there := n.b.Engine().Find(o.Area, o.Lsa.Key); !there || !lsa.Alike(l, o.Lsa) {
				t.Errorf("%s: %v, want %v", what, l, o.Lsa)
			}
		}
	}
}

// P5, P18.1: by a commit, and by its way back, neighbors fall just where the plan lets them; elsewhere they stay Full.
func TestFullThroughCommits(t *testing.T) {
	for _, x := range []struct{ commands, plan, stay string }{
		{"set interface e cost 77", "anew e\n", "e:2 f:2"},
		{"set interface f retransmit 3", "timers f\n", "e:2 f:2"},
		{"set interface e priority 7", "hellos e\n", "e:2 f:2"},
		{"set area 0.0.0.1 cost 5", "anew 0.0.0.1\n", "e:2 f:2"},
		{"set interface f auth key", "reset f\n", "e:2"},
		{"set area 0.0.0.0 type normal", "reset e\n", "f:2"},
		{"set interface e network point-to-point", "restart e\n", "f:2"},
		{"set interface f area 0.0.0.0", "move f\n", "e:2"},
		{"delete interface f", "stop f\n", "e:2"},
		{"set router-id 0.0.0.9", "whole\n", ""},
	} {
		w := fullNets(t)
		n := w.nodes[0]
		w.do(0, x.commands)
		l, _ := plan.Make(n.b.Running(), n.b.Candidate())
		if plan.Text(l) != x.plan {
			t.Errorf("%s: %s", x.commands, plan.Text(l))
		}
		w.do(0, "commit-confirmed 3")
		wantFulls(t, x.commands, w, x.stay)
		for range 2 {
			w.tick(1)
			if x.stay == "e:2 f:2" {
				wantFulls(t, x.commands, w, x.stay, "e:1 f:1")
				wantSame(t, x.commands, w)
			}
		}
		out := n.tick()
		wantFulls(t, x.commands+", gone back", w, x.stay)
		w.send(n, out)
		w.tick(15)
		wantFulls(t, x.commands+", gone back", w, "e:2 f:2", "e:1 f:1")
		wantSame(t, x.commands+", gone back", w)
	}
}

// P4, P3: a box that was opened again behind a crash comes to have the same again.
func TestFullBehindACrash(t *testing.T) {
	w := fullNets(t)
	w.do(0, "set interface e cost 7;commit;set interface e cost 8;commit-confirmed 9;set interface f cost 3")
	w.nodes[0].crash()
	wantFulls(t, "Open", w, "", "e:1 f:1")
	if v := conf.Value(w.nodes[0].b.Running(), api.Interface, "e", "cost"); v != "7" {
		t.Error("cost", v)
	}
	w.tick(15)
	wantFulls(t, "ticks", w, "e:2 f:2", "e:1 f:1")
	wantSame(t, "ticks", w)
}

// P18.1: what is sent by a commit, by what goes back, and by the Engine's own Tick, in this order.
func TestWhatIsSent(t *testing.T) {
	w := fullNets(t)
	n := w.nodes[0]
	for _, s := range []string{"set interface e cost 9", "show", "check", "compare", "rollback 0", "confirm", "set interface e cost 9"} {
		if out := n.do(s); len(out) > 0 {
			t.Errorf("%s: %v", s, out)
		}
	}
	types := func(out []engine.Out) string {
		var l []string
		for _, o := range out {
			l = append(l, fmt.Sprintf("%s%d", o.Face, o.Text[1]))
		}
		return strings.Join(l, " ")
	}
	for _, x := range []struct{ command, sent string }{
		// an Update to the neighbor; Hellos each tick
		{"commit-confirmed 3", "e4"}, {"tick", "e1 f1"}, {"tick", "e1 f1"}, {"tick", "e4 e1 f1"}, {"tick", "e1 f1"}, {"commit", "e4"}, {"commit-confirmed 5", ""}, {"confirm", ""},
	} {
		var out []engine.Out
		if x.command == "tick" {
			out = n.tick()
		} else {
			out = n.do(x.command)
		}
		if types(out) != x.sent {
			t.Errorf("%s: %s, want %s", x.command, types(out), x.sent)
		}
		w.send(n, out)
		if x.command == "tick" {
			w.send(w.nodes[1], w.nodes[1].tick())
		}
	}
}

// anyEdit is a command by which a router on networks e, f and g is perhaps another one.
func anyEdit(r *rand.Rand, i int) string {
	j := r.Intn(3)
	name := []string{"e", "f", "g"}[j]
	face := "set interface " + name + " "
	number := fmt.Sprint(1 + r.Intn(4))
	switch r.Intn(16) {
	case 0:
		return some(r, "set router-id 0.0.0."+fmt.Sprint(i+1), "set router-id 0.0.1."+number, "delete router-id")
	case 1:
		return some(r, "delete interface "+name, "delete interface "+name+" "+some(r, "cost", "auth", "network", "priority"))
	case 2:
		return some(r, "set area 0.0.0.1 type stub", "delete area 0.0.0.1", "set area 0.0.0.1 cost "+number, "set area 0.0.0.0 cost "+number)
	case 3:
		return face + some(r, "auth a", "network point-to-point", "network broadcast", "hello 2", "area 0.0.0.1")
	case 4, 5:
		return face + some(r, "cost ", "priority ", "retransmit ") + number
	case 6, 7:
		return face + "area 0.0.0." + fmt.Sprint(j%2)
	case 8, 9, 10:
		return face + fmt.Sprintf("address 10.0.%d.%d/24", j, i+1)
	case 11, 12:
		return face + "hello 1"
	case 13, 14:
		return face + "dead " + fmt.Sprint(3+r.Intn(2))
	}
	return "set router-id 0.0.0." + fmt.Sprint(i+1)
}

// P2 to P7, P18.1 to P18.3: whatever is done, all is told, sent and written as of a plain list of configurations, and of a router beside it.
func TestAnyCommands(t *testing.T) {
	r := rand.New(rand.NewSource(1801))
	full := 0
	for range 25 {
		w := &nets{}
		for i := range 3 {
			w.nodes = append(w.nodes, newNode(t, []int{14, 40, 300}[r.Intn(3)]))
			w.do(i, router(i+1))
		}
		for range 300 {
			i := r.Intn(3)
			switch k := r.Intn(100); {
			case k < 2:
				w.nodes[i].crash()
			case k < 45:
				w.do(i, anyEdit(r, i))
			case k < 60:
				w.do(i, some(r, "commit", "commit-confirmed "+fmt.Sprint(1+r.Intn(5))))
			case k < 65:
				w.do(i, "confirm")
			case k < 70:
				w.do(i, "rollback "+fmt.Sprint(r.Intn(6)))
			case k < 75:
				w.do(i, some(r, "show", "check", "compare", "what"))
			default:
				w.tick(1)
			}
			full += len(w.nodes[i].fulls())
		}
	}
	if full < 1000 {
		t.Error("few are Full:", full)
	}
}
