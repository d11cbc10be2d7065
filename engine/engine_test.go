package engine_test

import (
	"fmt"
	"slices"
	"testing"

	"waystone/adv"
	"waystone/api"
	"waystone/conf"
	"waystone/engine"
	"waystone/lsa"
	"waystone/packet"
	"waystone/sync"
)

// P16.1: the example, and what else a router begins with.
func TestNew(t *testing.T) {
	e := begun(t, us+iface("e", "10.0.0.2/24"))
	wantWords(t, "one interface", has(e, "0.0.0.0"), "R5.5.5.5+0")
	wantWords(t, "one interface", stands(e), "e 0.0.0.0")
	l, ok := e.Find(0, lsa.Key{Type: 1, Id: addr("5.5.5.5"), Adv: addr("5.5.5.5")})
	want := lsa.Link{Id: addr("10.0.0.0"), Data: mask24, Type: 3, Cost: 10}
	if !ok || l.Age != 0 || l.Seq != api.FirstSeq || !slices.Equal(l.Links, []lsa.Link{want}) {
		t.Errorf("%v, %v", l, ok)
	}
	e = begun(t, us+iface("z", "10.0.2.1/24", "area 0.0.0.9")+iface("b", "10.0.1.1/24")+iface("a", "10.0.3.1/24", "area 0.0.0.9", two))
	wantWords(t, "two areas", has(e, "0.0.0.0"), "R5.5.5.5+0")
	wantWords(t, "two areas", has(e, "0.0.0.9"), "R5.5.5.5+0")
	wantWords(t, "two areas", has(e, "0.0.0.1"))
	wantWords(t, "two areas", stands(e), "a 0.0.0.0", "b 0.0.0.0", "z 0.0.0.0")
	wantWords(t, "two areas", seen(e))
	for _, text := range []string{"", us} {
		e = begun(t, text)
		if len(e.Faces()) != 0 || len(e.Heads(0)) != 0 || len(e.Tick()) != 0 || !conf.Same(e.Conf(), read(t, text)) {
			t.Errorf("%q: %v", text, all(e))
		}
	}
}

// P16.1
func TestNewOfWhatCantBe(t *testing.T) {
	for _, c := range wrongs(t) {
		if e, err := engine.New(c); e != nil || err != api.ErrRule {
			t.Errorf("%v: %v, error %d", c, e, err)
		}
	}
}

// wrongs are configurations that can't be used.
func wrongs(t *testing.T) []conf.Conf {
	line := conf.Line{Leaf: "router-id", Value: "5.5.5.5"}
	return []conf.Conf{
		read(t, iface("e", "10.0.0.2/24")), read(t, us+"interface e { cost 5; }"), read(t, us+iface("e", "10.0.0.2/24", "dead 1")), read(t, us+"area 0.0.0.1 { cost 5; }"),
		{line, line}, {{}}, make(conf.Conf, 70),
	}
}

// P16.1, P1: no router at all, and one of nothing.
func TestNobody(t *testing.T) {
	c := read(t, us+iface("e", "10.0.0.2/24"))
	b, _ := packet.Put(hello())
	for _, e := range []*engine.Engine{nil, {}} {
		k := lsa.Key{Type: 1, Id: 1, Adv: 1}
		_, found := e.Find(0, k)
		n, known := e.Neighbor("e", 0)
		if len(e.Tick()) != 0 || len(e.Seen()) != 0 || len(e.Faces()) != 0 || found || len(e.Heads(0)) != 0 || len(e.Conf()) != 0 || known || n.State != 0 {
			t.Errorf("%v", e)
		}
		want := api.ErrNone
		if e == nil {
			want = api.ErrArg
		}
		if out, err := e.Take("e", 1, b); len(out) != 0 || err != want {
			t.Errorf("Take: %v, error %d, want %d", out, err, want)
		}
	}
	var nobody *engine.Engine
	for _, c := range []conf.Conf{c, nil, {{}}} {
		if out, err := nobody.Change(c, engine.Restart{Whole: true}); len(out) != 0 || err != api.ErrArg {
			t.Errorf("Change: %v, error %d", out, err)
		}
	}
	var e engine.Engine
	if out, err := e.Change(c, engine.Restart{}); len(out) != 0 || err != api.OK {
		t.Errorf("Change: %v, error %d", out, err)
	}
	wantWords(t, "begun by Change", has(&e, "0.0.0.0"), "R5.5.5.5+0")
}

// P16.1: all neighbors, by interfaces, then by addresses as numbers; who speaks, and who is Full.
func TestSeenAndFaces(t *testing.T) {
	e := begun(t, us+iface("b", "10.0.1.2/24", two)+iface("B", "10.0.0.2/24"))
	for _, o := range []other{{"b", "9.9.9.9", "10.0.1.10"}, {"B", "1.1.1.1", "10.0.0.200"}, {"b", "8.8.8.8", "10.0.1.9"}, {"B", "4.4.4.4", "10.0.0.3"}, {"b", "7.7.7.7", "200.0.1.1"}} {
		o.tells(t, e, hello())
	}
	other{"b", "9.9.9.9", "10.0.1.10"}.lead(t, e)
	other{"b", "8.8.8.8", "10.0.1.9"}.lead(t, e)
	wantWords(t, "Seen", seen(e), "B 10.0.0.3 4.4.4.4 1", "B 10.0.0.200 1.1.1.1 1", "b 10.0.1.9 8.8.8.8 6", "b 10.0.1.10 9.9.9.9 6", "b 200.0.1.1 7.7.7.7 1")
	wantWords(t, "Faces", stands(e), "B 0.0.0.0", "b 0.0.0.0 8.8.8.8 10.0.1.9 9.9.9.9 10.0.1.10")
	for _, o := range []other{{"B", "", "10.0.1.9"}, {"c", "", "10.0.1.9"}, {"", "", "10.0.1.9"}, {"b", "", "0.0.0.0"}} {
		if n, ok := e.Neighbor(o.face, addr(o.addr)); ok || n.State != 0 || n.Id != 0 {
			t.Errorf("%v: %v, %v", o, n, ok)
		}
	}
	l, ok := e.Find(0, lsa.Key{Type: 1, Id: addr("5.5.5.5"), Adv: 1})
	if ok || l.Seq != 0 {
		t.Errorf("%v, %v", l, ok)
	}
}

// P16.1, rule 4: what is handed in isn't kept or changed, and what is done with an answer changes nothing.
func TestNothingIsShared(t *testing.T) {
	c := read(t, us+iface("e", "10.0.0.2/24", two))
	room := append(make(conf.Conf, 0, 20), c...)
	e, _ := engine.New(room)
	o := other{"e", "9.9.9.9", "10.0.0.9"}
	o.tells(t, e, hello("5.5.5.5"))
	o.tells(t, e, database(7, 50))
	o.tells(t, e, database(1, 51, router("8.8.8.8", 0, 1), router("9.9.9.9", 0, 1)))
	p := update(router("9.9.9.9", 0, 1))
	p.Router = addr(o.id)
	b, _ := packet.Put(p)
	sent, err := e.Take("e", addr(o.addr), b)
	if err != api.OK || len(sent) == 0 {
		t.Fatal(sent, err)
	}
	again, _ := packet.Put(p)
	if !slices.Equal(b, again) {
		t.Errorf("Take changed what came")
	}
	o.tells(t, e, packet.Packet{Type: packet.Hello, Hello: hello("5.5.5.5").Hello})
	r := engine.Restart{Resets: []string{"x"}, Restarts: []string{"y"}}
	if _, err := e.Change(room, r); err != api.OK || r.Resets[0] != "x" || r.Restarts[0] != "y" {
		t.Error(err, r)
	}
	want := all(e)
	clear(b)
	clear(room)
	clear(sent[0].Text)
	clear(r.Restarts)
	spoil(e)
	if got := all(e); got != want {
		t.Errorf("%s, want %s", got, want)
	}
	if !slices.Equal(room[:cap(room)][len(c):], make(conf.Conf, cap(room)-len(c))) {
		t.Errorf("spare room was changed")
	}
}

// spoil changes all that a router answers when it is asked.
func spoil(e *engine.Engine) {
	clear(e.Conf())
	_ = append(e.Conf(), conf.Line{})
	clear(e.Heads(0))
	clear(e.Seen())
	for _, f := range e.Faces() {
		clear(f.Full)
		_ = append(f.Full, adv.Peer{})
	}
	clear(e.Faces())
	for _, k := range []uint32{addr("5.5.5.5"), addr("9.9.9.9")} {
		l, _ := e.Find(0, lsa.Key{Type: 1, Id: k, Adv: k})
		clear(l.Links)
	}
	for _, s := range e.Seen() {
		n, _ := e.Neighbor(s.Face, s.Addr)
		clear(n.Want)
		clear(n.Owe)
		_ = append(append(n.Want, lsa.Key{}), n.Owe...)
	}
}

// rule 4: no two lists of one answer share memory.
func TestAnswersStandApart(t *testing.T) {
	e := begun(t, us+iface("a", "10.0.0.2/24", two)+iface("b", "10.0.1.2/24", two))
	a, b := other{"a", "9.9.9.9", "10.0.0.9"}, other{"b", "8.8.8.8", "10.0.1.9"}
	a.lead(t, e)
	b.lead(t, e)
	faces := e.Faces()
	want := fmt.Sprint(faces[1])
	_ = append(faces[0].Full, adv.Peer{})
	clear(faces[0].Full)
	if got := fmt.Sprint(faces[1]); got != want {
		t.Errorf("%s, want %s", got, want)
	}
	out := e.Tick()
	if len(out) < 2 {
		t.Fatal(out)
	}
	want = fmt.Sprint(out[1:])
	_ = append(out[0].Text, 1, 2, 3)
	clear(out[0].Text)
	if got := fmt.Sprint(out[1:]); got != want {
		t.Errorf("%s, want %s", got, want)
	}
	n, _ := e.Neighbor("a", addr(a.addr))
	if n.State != sync.Full {
		t.Errorf("%v", n)
	}
}
