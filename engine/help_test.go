package engine_test

import (
	"fmt"
	"slices"
	"strings"
	"testing"

	"waystone/adv"
	"waystone/api"
	"waystone/conf"
	"waystone/engine"
	"waystone/lsa"
	"waystone/packet"
	"waystone/parse"
	"waystone/schema"
	"waystone/sync"
)

// read is a configuration as it is written.
func read(t *testing.T, text string) conf.Conf {
	t.Helper()
	c, e := parse.Text(text)
	if e != api.OK {
		t.Fatalf("%q: error %d", text, e)
	}
	return c
}

// iface is an interface as it is written: of area 0.0.0.0, a Hello each tick and gone in 4, where more doesn't say otherwise.
func iface(name, address string, more ...string) string {
	text := "interface " + name + " { area 0.0.0.0; hello 1; dead 4; address " + address + "; "
	for _, s := range more {
		text += s + "; "
	}
	return text + "}\n"
}

const (
	us  = "router-id 5.5.5.5;\n"
	two = "network point-to-point"
)

// begun is a router as it begins.
func begun(t *testing.T, text string) *engine.Engine {
	t.Helper()
	e, err := engine.New(read(t, text))
	if err != api.OK {
		t.Fatalf("New of %q: error %d", text, err)
	}
	return e
}

// addr is an address by its text.
func addr(s string) uint32 {
	n, ok := schema.Addr(s)
	if !ok {
		panic("no address: " + s)
	}
	return n
}

// mask24 is that of most networks here.
const mask24 = 0xFFFFFF00

// other is a neighbor, whose packets are made by hand: its number, its address, and the interface on whose network it is.
type other struct {
	face     string
	id, addr string
}

// take hands a packet of the other one to a router.
func (o other) take(e *engine.Engine, p packet.Packet) ([]engine.Out, api.Errno) {
	p.Router = addr(o.id)
	b, err := packet.Put(p)
	if err != api.OK {
		panic(fmt.Sprintf("a packet that can't be: %v", p))
	}
	return e.Take(o.face, addr(o.addr), b)
}

// tells hands a packet to a router that takes it, and tells what is sent, in words.
func (o other) tells(t *testing.T, e *engine.Engine, p packet.Packet) []string {
	t.Helper()
	out, err := o.take(e, p)
	if err != api.OK {
		t.Fatalf("%v of %v: error %d", p, o, err)
	}
	return words(t, out)
}

// hello is a greeting of one that knows those numbers.
func hello(knows ...string) packet.Packet {
	g := packet.Greeting{Mask: mask24, Interval: 1, Dead: 4, Priority: 1}
	for _, s := range knows {
		g.Neighbors = append(g.Neighbors, addr(s))
	}
	return packet.Packet{Type: packet.Hello, Hello: g}
}

func helloOf(priority int, dr, bdr string, knows ...string) packet.Packet {
	p := hello(knows...)
	p.Hello.Priority, p.Hello.Dr, p.Hello.Bdr = priority, addr(dr), addr(bdr)
	return p
}

func database(flags int, seq uint32, lsas ...lsa.Lsa) packet.Packet {
	return packet.Packet{Type: packet.Database, Flags: flags, Seq: seq, Heads: headsOf(lsas)}
}

func request(keys ...lsa.Key) packet.Packet {
	return packet.Packet{Type: packet.Request, Keys: keys}
}

func update(lsas ...lsa.Lsa) packet.Packet {
	return packet.Packet{Type: packet.Update, Lsas: lsas}
}

func ack(lsas ...lsa.Lsa) packet.Packet {
	return packet.Packet{Type: packet.Ack, Heads: headsOf(lsas)}
}

func headsOf(lsas []lsa.Lsa) []lsa.Header {
	var heads []lsa.Header
	for _, l := range lsas {
		b, e := lsa.Put(l)
		if e != api.OK {
			panic(fmt.Sprintf("an Lsa that can't be: %v", l))
		}
		h, _ := lsa.Head(b)
		heads = append(heads, h)
	}
	return heads
}

// router is a Router Lsa, so many numbers behind the first one; cost makes it another one.
func router(id string, behind, cost int) lsa.Lsa {
	return lsa.Lsa{Key: lsa.Key{Type: lsa.Router, Id: addr(id), Adv: addr(id)}, Seq: api.FirstSeq + behind, Links: []lsa.Link{{Id: 7, Data: 8, Type: 3, Cost: cost}}}
}

func aged(age int, l lsa.Lsa) lsa.Lsa {
	l.Age = age
	return l
}

// lead takes the other one, whose number must be above ours, from nothing to Full: it leads, and has those Lsas, of which we have none.
func (o other) lead(t *testing.T, e *engine.Engine, lsas ...lsa.Lsa) {
	t.Helper()
	o.tells(t, e, hello("5.5.5.5"))
	o.sync(t, e, lsas...)
}

// sync does so from ExStart on.
func (o other) sync(t *testing.T, e *engine.Engine, lsas ...lsa.Lsa) {
	t.Helper()
	o.tells(t, e, database(7, 50))
	o.tells(t, e, database(1, 51, lsas...))
	if len(lsas) > 0 {
		o.tells(t, e, update(lsas...))
	}
	wantState(t, e, o, sync.Full)
	o.acksAll(t, e)
}

// acksAll acknowledges all that is owed to the other one.
func (o other) acksAll(t *testing.T, e *engine.Engine) {
	t.Helper()
	n, _ := e.Neighbor(o.face, addr(o.addr))
	var lsas []lsa.Lsa
	for _, k := range n.Owe {
		l, _ := e.Find(0, k)
		lsas = append(lsas, l)
	}
	o.tells(t, e, ack(lsas...))
}

func wantState(t *testing.T, e *engine.Engine, o other, state int) {
	t.Helper()
	n, ok := e.Neighbor(o.face, addr(o.addr))
	if !ok || n.State != state || n.Id != addr(o.id) {
		t.Fatalf("%v: %v, %v, want state %d", o, n, ok, state)
	}
}

// words are packets in words, one each: from which interface, to whom, and what they tell.
func words(t *testing.T, out []engine.Out) []string {
	t.Helper()
	var l []string
	for _, o := range out {
		p, e := packet.Get(o.Text, "")
		if e != api.OK {
			t.Errorf("a packet that can't be got: error %d", e)
		}
		s := o.Face
		if o.To != 0 {
			s += " " + schema.Dotted(o.To)
		}
		l = append(l, s+": "+wordsOf(p))
	}
	return l
}

func wordsOf(p packet.Packet) string {
	s := ""
	switch p.Type {
	case packet.Hello:
		s = fmt.Sprintf("hello %s %s", schema.Dotted(p.Hello.Dr), schema.Dotted(p.Hello.Bdr))
		for _, n := range p.Hello.Neighbors {
			s += " " + schema.Dotted(n)
		}
	case packet.Database:
		s = fmt.Sprintf("database %d %d", p.Flags, p.Seq)
	case packet.Request:
		s = "request"
	case packet.Update:
		s = "update"
	case packet.Ack:
		s = "ack"
	}
	for _, h := range slices.Concat(p.Heads, headsOf(p.Lsas)) {
		s += " " + keyWord(h.Key) + fmt.Sprintf("+%d", h.Seq-api.FirstSeq)
		if h.Age != 0 {
			s += fmt.Sprintf("@%d", h.Age)
		}
	}
	for _, k := range p.Keys {
		s += " " + keyWord(k)
	}
	return s
}

// keyWord is a key as a letter of its type, its id, and who tells it, if that is another one.
func keyWord(k lsa.Key) string {
	s := string("?RNS????"[k.Type&7]) + schema.Dotted(k.Id)
	if k.Id != k.Adv {
		s += "/" + schema.Dotted(k.Adv)
	}
	return s
}

func wantWords(t *testing.T, what string, got []string, want ...string) {
	t.Helper()
	if !slices.Equal(got, want) {
		t.Errorf("%s: sent\n%s\nwant\n%s", what, strings.Join(got, "\n"), strings.Join(want, "\n"))
	}
}

// seen are all neighbors in words: "FACE ADDRESS ID STATE".
func seen(e *engine.Engine) []string {
	var l []string
	for _, s := range e.Seen() {
		l = append(l, fmt.Sprintf("%s %s %s %d", s.Face, schema.Dotted(s.Addr), schema.Dotted(s.Id), s.State))
	}
	return l
}

// has is all that is told in an area, in words.
func has(e *engine.Engine, area string) []string {
	var l []string
	for _, h := range e.Heads(addr(area)) {
		l = append(l, wordsOf(packet.Packet{Heads: []lsa.Header{h}})[1:])
	}
	return l
}

// stands are interfaces in words: "FACE SPEAKER ID ADDRESS ..".
func stands(e *engine.Engine) []string {
	var l []string
	for _, f := range e.Faces() {
		s := f.Name + " " + schema.Dotted(f.Dr)
		for _, p := range f.Full {
			s += " " + schema.Dotted(p.Id) + " " + schema.Dotted(p.Addr)
		}
		l = append(l, s)
	}
	return l
}

// all is all that a router tells when it is asked, in words.
func all(e *engine.Engine) string {
	s := fmt.Sprint(e.Conf(), stands(e))
	areas := map[uint32]int{}
	for _, name := range conf.Names(e.Conf(), api.Interface) {
		set, _ := adv.Settings(e.Conf(), name)
		areas[set.Area]++
	}
	for _, x := range e.Seen() {
		n, _ := e.Neighbor(x.Face, x.Addr)
		s += fmt.Sprint(x, n)
	}
	for area := range uint32(20) {
		areas[area]++
	}
	for _, area := range sorted(areas) {
		for _, h := range e.Heads(area) {
			l, _ := e.Find(area, h.Key)
			s += fmt.Sprint(area, h, l)
		}
	}
	return s
}

func sorted(areas map[uint32]int) []uint32 {
	var l []uint32
	for area := range areas {
		l = append(l, area)
	}
	slices.Sort(l)
	return l
}

// tick lets time go by, and tells what is sent, but Hellos, in words.
func tick(t *testing.T, e *engine.Engine) []string {
	t.Helper()
	return slices.DeleteFunc(words(t, e.Tick()), func(s string) bool { return strings.Contains(s, ": hello ") })
}
