package engine_test

import (
	"bytes"
	"fmt"
	"math/rand"
	"slices"
	"strconv"
	"strings"
	"testing"

	"waystone/adv"
	"waystone/api"
	"waystone/conf"
	"waystone/engine"
	"waystone/lsa"
	"waystone/schema"
	"waystone/sync"
)

// node is a router on networks, beside which a model of it is told the same.
type node struct {
	t     *testing.T
	e     *engine.Engine
	m     *model
	calls int
	wild  bool // what comes may leave no room, or no number, for what is ours
}

func newNode(t *testing.T, c conf.Conf) *node {
	t.Helper()
	e, err := engine.New(c)
	if err != api.OK {
		t.Fatalf("New of %v: error %d", c, err)
	}
	n := &node{t: t, e: e, m: newModel(c)}
	n.check("New", nil, nil)
	return n
}

func (n *node) tick() []engine.Out {
	out := n.e.Tick()
	n.check("Tick", out, n.m.tick())
	return out
}

func (n *node) change(c conf.Conf, r engine.Restart) []engine.Out {
	out, err := n.e.Change(c, r)
	if err != api.OK {
		n.t.Fatalf("Change to %v: error %d", c, err)
	}
	n.check("Change", out, n.m.change(c, r))
	return out
}

func (n *node) take(face string, from uint32, b []byte) ([]engine.Out, api.Errno) {
	n.t.Helper()
	out, err := n.e.Take(face, from, b)
	want, wantErr := n.m.take(face, from, b)
	if err != wantErr {
		n.t.Fatalf("Take: error %d, want %d", err, wantErr)
	}
	n.check("Take", out, want)
	return out, err
}

// check asks whether the router sent and stands as the model, and tells of itself what follows from how it stands.
func (n *node) check(what string, out, want []engine.Out) {
	n.t.Helper()
	if !slices.EqualFunc(out, want, func(a, b engine.Out) bool {
		return a.Face == b.Face && a.To == b.To && bytes.Equal(a.Text, b.Text)
	}) {
		n.t.Fatalf("%s: sent\n%v\nwant\n%v", what, out, want)
	}
	// all that it can be asked takes long
	if n.calls++; n.calls%7 > 0 {
		return
	}
	if fmt.Sprint(n.e.Faces()) != fmt.Sprint(n.m.stands()) || n.m.failed != api.OK {
		n.t.Fatalf("%s: %v, want %v, error %d", what, n.e.Faces(), n.m.stands(), n.m.failed)
	}
	for _, f := range n.m.faces {
		if heads := n.e.Heads(f.set.Area); !slices.Equal(heads, n.m.heads(f.set.Area)) {
			n.t.Fatalf("%s: %v, want %v", what, heads, n.m.heads(f.set.Area))
		}
	}
	n.checkSeen(what)
	if !n.wild {
		n.checkOwn(what)
	}
}

func (n *node) checkSeen(what string) {
	n.t.Helper()
	var want []engine.Seen
	for _, f := range n.m.faces {
		for _, x := range f.neighbor {
			want = append(want, engine.Seen{Face: f.name, Addr: x.addr, Id: x.n.Id, State: x.n.State})
			if got, ok := n.e.Neighbor(f.name, x.addr); !ok || fmt.Sprint(got) != fmt.Sprint(x.n) {
				n.t.Fatalf("%s: %v, %v, want %v", what, got, ok, x.n)
			}
		}
	}
	if !slices.Equal(n.e.Seen(), want) {
		n.t.Fatalf("%s: %v, want %v", what, n.e.Seen(), want)
	}
}

// checkOwn is P16.3: what it tells of itself is what follows from its configuration and how its interfaces stand, and nothing else.
func (n *node) checkOwn(what string) {
	n.t.Helper()
	own, _ := adv.All(n.e.Conf(), n.e.Faces())
	count := 0
	for _, f := range n.m.areas() {
		for _, h := range n.e.Heads(f) {
			if h.Key.Adv == adv.Id(n.e.Conf()) && h.Age < api.MaxAge {
				count++
			}
		}
	}
	for _, o := range own {
		l, ok := n.e.Find(o.Area, o.Lsa.Key)
		if !ok || l.Age >= api.RefreshAge || !lsa.Alike(l, o.Lsa) {
			n.t.Fatalf("%s: tells %v, %v, want %v", what, l, ok, o)
		}
	}
	if count != len(own) {
		n.t.Fatalf("%s: tells %d, want %v", what, count, own)
	}
}

// address is a router's on the network of that name; 0 if it has none there.
func (n *node) address(face string) uint32 {
	for _, f := range n.m.faces {
		if f.name == face {
			return f.set.Addr
		}
	}
	return 0
}

// onWay is a packet on its way to a router.
type onWay struct {
	face string
	from uint32
	to   *node
	b    []byte
}

// nets are routers whose interfaces of the same name are on the same network.
type nets struct {
	t     *testing.T
	nodes []*node
	way   []onWay
	takes func(n int) int // which of those on their way comes next
}

func (w *nets) send(from *node, out []engine.Out) {
	for _, o := range out {
		for _, n := range w.nodes {
			if at := n.address(o.Face); n != from && at != 0 && (o.To == 0 || o.To == at) {
				w.way = append(w.way, onWay{o.Face, from.address(o.Face), n, o.Text})
			}
		}
	}
}

// deliver brings all packets to where they go, and what is sent then.
func (w *nets) deliver() {
	w.t.Helper()
	for count := 0; len(w.way) > 0; count++ {
		if count > 20000 {
			w.t.Fatal("packets without end")
		}
		at := w.takes(len(w.way))
		p := w.way[at]
		w.way = slices.Delete(w.way, at, at+1)
		out, err := p.to.take(p.face, p.from, p.b)
		if err != api.OK && err != api.ErrState {
			w.t.Fatalf("error %d", err)
		}
		w.send(p.to, out)
	}
}

func (w *nets) tick(n int) {
	w.t.Helper()
	for range n {
		for _, n := range w.nodes {
			w.send(n, n.tick())
			if w.takes(2) == 0 {
				w.deliver()
			}
		}
		w.deliver()
	}
}

// wantOneMind is P16.2: who hears whom is Full to it, but where neither speaks for the network or is the deputy, and all of an area have the same.
func (w *nets) wantOneMind(what string) {
	w.t.Helper()
	for _, a := range w.nodes {
		for _, b := range w.nodes {
			for _, f := range a.m.faces {
				if a != b && b.address(f.name) != 0 {
					w.wantFull(what, f, a, b)
				}
			}
		}
	}
}

func (w *nets) wantFull(what string, f modelFace, a, b *node) {
	w.t.Helper()
	at := slices.IndexFunc(b.m.faces, func(g modelFace) bool { return g.name == f.name })
	g := b.m.faces[at]
	if f.dr != g.dr || f.bdr != g.bdr {
		w.t.Fatalf("%s: on %s: %x and %x, %x and %x", what, f.name, f.dr, f.bdr, g.dr, g.bdr)
	}
	lead := []uint32{f.set.Addr, g.set.Addr}
	n, ok := a.e.Neighbor(f.name, g.set.Addr)
	want := sync.TwoWay
	if f.set.Two || slices.Contains(lead, f.dr) || f.bdr != 0 && slices.Contains(lead, f.bdr) {
		want = sync.Full
	}
	if !ok || n.State != want || len(n.Want) > 0 || len(n.Owe) > 0 {
		w.t.Fatalf("%s: on %s: %v, %v, want state %d", what, f.name, n, ok, want)
	}
	if !slices.EqualFunc(a.e.Heads(f.set.Area), b.e.Heads(f.set.Area), func(x, y lsa.Header) bool {
		return x.Key == y.Key && x.Seq == y.Seq && x.Sum == y.Sum
	}) {
		area := schema.Dotted(f.set.Area)
		w.t.Fatalf("%s: in area %s: %v, %v", what, area, has(a.e, area), has(b.e, area))
	}
}

// network is one on which routers may stand: what all of them have alike.
type network struct {
	name, more string
	hello      int
	dead       int
}

func anyNetworks(r *rand.Rand) []network {
	var l []network
	for i, name := range []string{"x", "y", "z"} {
		n := network{name: name, hello: 1 + r.Intn(3)}
		n.dead = 2*n.hello + 1 + r.Intn(3)
		if r.Intn(3) == 0 {
			n.more = two + "; "
		}
		if r.Intn(2) == 0 {
			n.more += "auth k" + name + "; "
		}
		n.more += fmt.Sprintf("area 0.0.0.%d; ", []int{0, 0, 7}[i])
		l = append(l, n)
	}
	return l
}

// anyRouter is a configuration of the i-th router, on the first of the networks, and perhaps on others.
func anyRouter(t *testing.T, r *rand.Rand, networks []network, i int) conf.Conf {
	t.Helper()
	text := fmt.Sprintf("router-id %d.1.1.%d;\n", []int{1, 200}[r.Intn(2)], i)
	for j, n := range networks {
		if j > 0 && r.Intn(2) == 0 {
			continue
		}
		priority := r.Intn(3)
		if i == 0 || j > 0 {
			// somebody must be there who may speak
			priority++
		}
		text += fmt.Sprintf("interface %s { address 10.%d.0.%d/16; hello %d; dead %d; cost %d; priority %d; retransmit %d; %s }\n", n.name, j, 1+i, n.hello, n.dead, 1+r.Intn(9), priority, 1+r.Intn(5), n.more)
	}
	return read(t, text)
}

// settled is how many ticks routers may take till they are of one mind.
const settled = 45

// P16.2, P16.3, P4: any routers, whenever they begin, in whatever order packets come; one begins again, one takes another configuration, one goes.
func TestRoutersComeToOneMind(t *testing.T) {
	r := rand.New(rand.NewSource(162))
	for range 10 {
		networks := anyNetworks(r)
		w := &nets{t: t, takes: []func(n int) int{r.Intn, func(int) int { return 0 }}[r.Intn(2)]}
		count := 2 + r.Intn(4)
		for i := range count {
			w.nodes = append(w.nodes, newNode(t, anyRouter(t, r, networks, i)))
			w.tick(r.Intn(4))
		}
		w.tick(settled)
		w.wantOneMind("at first")
		i := r.Intn(count)
		w.nodes[i] = newNode(t, w.nodes[i].e.Conf())
		w.tick(settled)
		w.wantOneMind("one begins again")
		i = r.Intn(count)
		w.send(w.nodes[i], w.nodes[i].change(anyRouter(t, r, networks, i), engine.Restart{Whole: r.Intn(2) == 0}))
		w.tick(settled)
		w.wantOneMind("another configuration")
		w.nodes = slices.Delete(w.nodes, count-1, count)
		w.tick(settled)
		w.wantOneMind("one goes")
	}
}

// P16.2, P16.3: once of one mind, routers stay so, and send nothing but Hellos till what they tell is told anew.
func TestOneMindLasts(t *testing.T) {
	r := rand.New(rand.NewSource(163))
	networks := []network{{name: "x", hello: 10, dead: 40, more: "area 0.0.0.0;"}}
	w := &nets{t: t, takes: func(int) int { return 0 }}
	for i := range 3 {
		w.nodes = append(w.nodes, newNode(t, anyRouter(t, r, networks, i)))
	}
	w.tick(120)
	w.wantOneMind("at first")
	before := has(w.nodes[0].e, "0.0.0.0")
	for range 1900 {
		w.tick(1)
		for _, n := range w.nodes {
			for _, s := range n.e.Seen() {
				if s.State < sync.TwoWay {
					t.Fatalf("%v", n.e.Seen())
				}
			}
		}
	}
	w.wantOneMind("behind 1900 ticks")
	after := has(w.nodes[0].e, "0.0.0.0")
	if len(before) != 4 || len(after) != len(before) {
		t.Fatalf("%v, were %v", after, before)
	}
	for i := range before {
		a, b := strings.Split(before[i], "+"), strings.Split(after[i], "+")
		x, _ := strconv.Atoi(strings.Split(a[1], "@")[0])
		y, _ := strconv.Atoi(strings.Split(b[1], "@")[0])
		if a[0] != b[0] || y != x+1 {
			t.Errorf("%v, was %v", after, before)
		}
	}
}
