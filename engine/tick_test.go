package engine_test

import (
	"fmt"
	"slices"
	"testing"

	"waystone/api"
	"waystone/engine"
	"waystone/lsa"
	"waystone/packet"
	"waystone/sync"
)

// P16.1: a Hello is due at the first tick, and then in time.
func TestHellosInTime(t *testing.T) {
	e := begun(t, us+iface("a", "10.0.0.2/24", "hello 3")+iface("b", "10.0.1.2/24", "hello 2", two))
	for n := 1; n <= 12; n++ {
		var want []string
		if n%3 == 1 {
			// alone, we come to speak behind the wait
			dr := "0.0.0.0"
			if n > 3 {
				dr = "10.0.0.2"
			}
			want = append(want, "a: hello "+dr+" 0.0.0.0")
		}
		if n%2 == 1 {
			want = append(want, "b: hello 0.0.0.0 0.0.0.0")
		}
		wantWords(t, "tick", words(t, e.Tick()), want...)
	}
}

// P16.1: a Hello's numbers, with the area's and the interface's Auth.
func TestAHello(t *testing.T) {
	e := begun(t, us+iface("a", "10.0.0.2/20", "hello 7", "dead 9", "priority 200", "area 0.0.0.3", "auth sesame")+iface("b", "10.1.0.2/30", "priority 0"))
	out := e.Tick()
	if len(out) != 2 || out[0].Face != "a" || out[0].To != 0 || out[1].Face != "b" || out[1].To != 0 {
		t.Fatal(out)
	}
	p, err := packet.Get(out[0].Text, "sesame")
	g := p.Hello
	if err != api.OK || p.Router != addr("5.5.5.5") || p.Area != 3 || g.Mask != addr("255.255.240.0") || g.Interval != 7 || g.Dead != 9 || g.Priority != 200 || g.Dr != 0 || g.Bdr != 0 || len(g.Neighbors) != 0 {
		t.Errorf("%v, error %d", p, err)
	}
	p, err = packet.Get(out[1].Text, "")
	if err != api.OK || p.Area != 0 || p.Hello.Mask != addr("255.255.255.252") || p.Hello.Priority != 0 || p.Hello.Interval != 1 || p.Hello.Dead != 4 {
		t.Errorf("%v, error %d", p, err)
	}
}

// P16.1: all neighbors' numbers, in the order of their addresses, whatever their states.
func TestAHelloKnowsAll(t *testing.T) {
	e := begun(t, us+iface("e", "10.0.0.2/24", two))
	other{"e", "1.1.1.1", "10.0.0.9"}.tells(t, e, hello())
	other{"e", "9.9.9.9", "10.0.0.3"}.tells(t, e, hello("5.5.5.5"))
	other{"e", "3.3.3.3", "10.0.0.10"}.tells(t, e, hello())
	wantWords(t, "tick", words(t, e.Tick()), "e: hello 0.0.0.0 0.0.0.0 9.9.9.9 1.1.1.1 3.3.3.3")
}

// P16.1: nobody speaks till the wait is over; then who is alone does, but of no priority, or of two alone.
func TestTheFirstElection(t *testing.T) {
	for _, a := range []struct{ more, dr string }{{"priority 1", "10.0.0.2"}, {"priority 0", "0.0.0.0"}, {two, "0.0.0.0"}} {
		for _, dead := range []string{"2", "3", "7"} {
			e := begun(t, us+iface("e", "10.0.0.2/24", a.more, "dead "+dead))
			for n := range int(dead[0]-'0') + 3 {
				want := "e 0.0.0.0"
				if n >= int(dead[0]-'0') {
					want = "e " + a.dr
				}
				wantWords(t, a.more+", dead "+dead, stands(e), want)
				e.Tick()
			}
			wantWords(t, "alone", has(e, "0.0.0.0"), fmt.Sprintf("R5.5.5.5+0@%d", dead[0]-'0'+3))
		}
	}
}

// P16.1: who isn't heard for Dead ticks is gone, and what follows from that is told.
func TestNeighborsGo(t *testing.T) {
	e := begun(t, us+iface("e", "10.0.0.2/24", two))
	a, b := other{"e", "9.9.9.9", "10.0.0.9"}, other{"e", "8.8.8.8", "10.0.0.8"}
	a.lead(t, e)
	wantWords(t, "nothing", tick(t, e))
	b.tells(t, e, hello())
	for range 2 {
		wantWords(t, "nothing", tick(t, e))
		wantWords(t, "both are there", seen(e), "e 10.0.0.8 8.8.8.8 1", "e 10.0.0.9 9.9.9.9 6")
	}
	wantWords(t, "the last tick", words(t, e.Tick()), "e: hello 0.0.0.0 0.0.0.0 8.8.8.8")
	wantWords(t, "one is gone", seen(e), "e 10.0.0.8 8.8.8.8 1")
	wantWords(t, "one is gone", has(e, "0.0.0.0"), "R5.5.5.5+2")
	b.tells(t, e, hello())
	e.Tick()
	wantWords(t, "a Hello came", seen(e), "e 10.0.0.8 8.8.8.8 1")
	for range 3 {
		e.Tick()
	}
	wantWords(t, "both are gone", seen(e))
	// who comes again is a new one
	a.tells(t, e, hello("5.5.5.5"))
	if n, _ := e.Neighbor("e", addr(a.addr)); n.Seq != 1 || n.State != sync.ExStart || n.Left != 4 || n.Wait != 5 {
		t.Errorf("%v", n)
	}
}

// P16.1: what isn't answered is sent again, behind retransmit ticks.
func TestSentAgain(t *testing.T) {
	e := begun(t, us+iface("e", "10.0.0.2/24", two, "retransmit 3", "dead 40"))
	o := other{"e", "9.9.9.9", "10.0.0.9"}
	greets := hello("5.5.5.5")
	greets.Hello.Dead = 40
	wantWords(t, "ExStart", o.tells(t, e, greets), "e 10.0.0.9: database 7 1")
	again := func(what string, want ...string) {
		t.Helper()
		for range 2 {
			wantWords(t, what, tick(t, e))
		}
		wantWords(t, what, tick(t, e), want...)
	}
	again("ExStart", "e 10.0.0.9: database 7 1")
	wantWords(t, "Exchange", o.tells(t, e, database(7, 50)), "e 10.0.0.9: database 0 50 R5.5.5.5+0@3")
	again("Exchange, led")
	wantWords(t, "Loading", o.tells(t, e, database(1, 51, router("9.9.9.9", 0, 1))), "e 10.0.0.9: database 0 51", "e 10.0.0.9: request R9.9.9.9")
	again("Loading", "e 10.0.0.9: request R9.9.9.9")
	o.tells(t, e, update(router("9.9.9.9", 0, 1)))
	// neighbors tick ahead of the Db
	again("Full", "e 10.0.0.9: update R5.5.5.5+1@2")
	again("Full", "e 10.0.0.9: update R5.5.5.5+1@5")
	o.acksAll(t, e)
	again("Full, acknowledged")
}

// ticks lets time go by, so that only what the other ones' Hellos hold up stands at last, and tells the last tick's packets.
func ticks(t *testing.T, e *engine.Engine, n int, greet ...other) []string {
	t.Helper()
	var last []string
	for range n {
		for _, o := range greet {
			o.tells(t, e, hello("5.5.5.5"))
		}
		last = tick(t, e)
	}
	return last
}

// P16.1: what is ours is told anew at 1800 ticks.
func TestRefresh(t *testing.T) {
	e := begun(t, us+iface("e", "10.0.0.2/24", two)+iface("f", "10.0.1.2/24", two))
	a, b := other{"e", "9.9.9.9", "10.0.0.9"}, other{"f", "8.8.8.8", "10.0.1.8"}
	a.lead(t, e)
	b.lead(t, e)
	a.acksAll(t, e)
	wantWords(t, "at first", has(e, "0.0.0.0"), "R5.5.5.5+2")
	for range 2 {
		wantWords(t, "1799", ticks(t, e, 1799, a, b))
		a.tells(t, e, hello("5.5.5.5"))
		b.tells(t, e, hello("5.5.5.5"))
		n := string(rune(has(e, "0.0.0.0")[0][9] + 1))
		wantWords(t, "1800", tick(t, e), "e 10.0.0.9: update R5.5.5.5+"+n, "f 10.0.1.8: update R5.5.5.5+"+n)
		wantWords(t, "1800", has(e, "0.0.0.0"), "R5.5.5.5+"+n)
		a.acksAll(t, e)
		b.acksAll(t, e)
	}
}

// P16.1: what others told grows old, comes to its end, is told so to all, and is dropped when all know it.
func TestTheEndOfAnLsa(t *testing.T) {
	e := begun(t, us+iface("e", "10.0.0.2/24", two)+iface("f", "10.0.1.2/24", two)+iface("g", "10.0.2.2/24", two, "area 0.0.0.7"))
	a, b, c := other{"e", "9.9.9.9", "10.0.0.9"}, other{"f", "8.8.8.8", "10.0.1.8"}, other{"g", "7.7.7.7", "10.0.2.7"}
	a.lead(t, e, aged(3597, router("3.3.3.3", 0, 1)), aged(3597, router("4.4.4.4", 0, 1)), aged(3596, router("9.9.9.9", 0, 1)))
	b.lead(t, e)
	a.acksAll(t, e)
	c.tells(t, e, packet.Packet{Type: packet.Hello, Area: 7, Hello: hello("5.5.5.5").Hello})
	c.tells(t, e, packet.Packet{Type: packet.Database, Area: 7, Flags: 7, Seq: 1})
	wantState(t, e, c, sync.Exchange)
	wantWords(t, "not yet", ticks(t, e, 2, a, b))
	wantWords(t, "not yet", has(e, "0.0.0.0"), "R3.3.3.3+0@3599", "R4.4.4.4+0@3599", "R5.5.5.5+2@2", "R9.9.9.9+0@3598")
	wantWords(t, "the end of two", ticks(t, e, 1, a, b), "e 10.0.0.9: update R3.3.3.3+0@3600 R4.4.4.4+0@3600", "f 10.0.1.8: update R3.3.3.3+0@3600 R4.4.4.4+0@3600")
	a.tells(t, e, ack(router("3.3.3.3", 0, 1), router("4.4.4.4", 0, 1)))
	b.tells(t, e, ack(router("4.4.4.4", 0, 1)))
	wantWords(t, "not ahead of a tick", has(e, "0.0.0.0"), "R3.3.3.3+0@3600", "R4.4.4.4+0@3600", "R5.5.5.5+2@3", "R9.9.9.9+0@3599")
	wantWords(t, "the end of the third", ticks(t, e, 1, a, b), "e 10.0.0.9: update R9.9.9.9+0@3600", "f 10.0.1.8: update R9.9.9.9+0@3600")
	wantWords(t, "one is owed", has(e, "0.0.0.0"), "R3.3.3.3+0@3600", "R5.5.5.5+2@4", "R9.9.9.9+0@3600")
	b.tells(t, e, ack(router("3.3.3.3", 0, 1), router("9.9.9.9", 0, 1)))
	ticks(t, e, 1, a, b)
	wantWords(t, "one is owed by the other one", has(e, "0.0.0.0"), "R5.5.5.5+2@5", "R9.9.9.9+0@3600")
	a.acksAll(t, e)
	ticks(t, e, 1, a, b)
	wantWords(t, "all know it", has(e, "0.0.0.0"), "R5.5.5.5+2@6")
}

// P16.1: while somebody comes to have the same, nothing is dropped, but in other areas.
func TestNothingIsDroppedWhileOneLoads(t *testing.T) {
	for _, state := range []int{sync.Heard, sync.ExStart, sync.Exchange, sync.Loading, sync.Full} {
		e := begun(t, us+iface("e", "10.0.0.2/24", two)+iface("f", "10.0.1.2/24", two)+iface("g", "10.0.2.2/24", two, "area 0.0.0.7"))
		a, b, c := other{"e", "9.9.9.9", "10.0.0.9"}, other{"f", "8.8.8.8", "10.0.1.8"}, other{"g", "7.7.7.7", "10.0.2.7"}
		a.lead(t, e, aged(3599, router("3.3.3.3", 0, 1)))
		inSeven := func(p packet.Packet) {
			p.Area = 7
			c.tells(t, e, p)
		}
		inSeven(hello("5.5.5.5"))
		inSeven(database(7, 50))
		inSeven(database(1, 51))
		inSeven(update(aged(3599, router("2.2.2.2", 0, 1))))
		if state == sync.Heard {
			b.tells(t, e, hello())
		} else {
			b.tells(t, e, hello("5.5.5.5"))
		}
		if state >= sync.Exchange {
			b.tells(t, e, database(7, 50))
		}
		if state == sync.Loading {
			b.tells(t, e, database(1, 51, router("8.8.8.8", 0, 1)))
		}
		if state == sync.Full {
			b.tells(t, e, database(1, 51))
		}
		wantState(t, e, b, state)
		e.Tick()
		a.acksAll(t, e)
		b.acksOf(t, e)
		inSeven(ack(router("2.2.2.2", 0, 1)))
		e.Tick()
		want := []string{"R3.3.3.3+0@3600"}
		if state != sync.Exchange && state != sync.Loading {
			want = nil
		}
		got := slices.DeleteFunc(has(e, "0.0.0.0"), func(s string) bool { return s[:8] == "R5.5.5.5" })
		wantWords(t, "state", got, want...)
		if _, ok := e.Find(7, lsa.Key{Type: 1, Id: addr("2.2.2.2"), Adv: addr("2.2.2.2")}); ok {
			t.Errorf("state %d: of another area, it is there yet", state)
		}
	}
}

// acksOf acknowledges all that is owed, if the other one may by now.
func (o other) acksOf(t *testing.T, e *engine.Engine) {
	t.Helper()
	if n, ok := e.Neighbor(o.face, addr(o.addr)); ok && n.State >= sync.ExStart {
		o.acksAll(t, e)
	}
}

// P16.1: what is owed to a neighbor of another area, of the same key, holds nothing.
func TestOwedInAnotherArea(t *testing.T) {
	e := begun(t, us+iface("e", "10.0.0.2/24", two)+iface("g", "10.0.2.2/24", two, "area 0.0.0.7"))
	a, c := other{"e", "9.9.9.9", "10.0.0.9"}, other{"g", "7.7.7.7", "10.0.2.7"}
	a.lead(t, e, aged(3599, router("3.3.3.3", 0, 1)))
	inSeven := func(p packet.Packet) {
		p.Area = 7
		c.tells(t, e, p)
	}
	inSeven(hello("5.5.5.5"))
	inSeven(database(7, 50))
	inSeven(database(1, 51))
	inSeven(update(aged(3599, router("3.3.3.3", 0, 1))))
	e.Tick()
	inSeven(ack(router("3.3.3.3", 0, 1)))
	e.Tick()
	wantWords(t, "owed", has(e, "0.0.0.0")[:1], "R3.3.3.3+0@3600")
	wantWords(t, "acknowledged", has(e, "0.0.0.7"), "R5.5.5.5+1@2")
}

// P16.1: within one tick: what is sent again, what came to its end, what follows, then the Hello.
func TestTheOrderOfATick(t *testing.T) {
	e := begun(t, us+iface("e", "10.0.0.2/24", two, "retransmit 2")+iface("f", "10.0.1.2/24", two, "retransmit 1"))
	a, b := other{"e", "9.9.9.9", "10.0.0.9"}, other{"f", "8.8.8.8", "10.0.1.8"}
	a.lead(t, e, aged(3596, router("3.3.3.3", 0, 1)))
	b.tells(t, e, hello("5.5.5.5"))
	for range 3 {
		a.tells(t, e, hello("5.5.5.5"))
		wantWords(t, "one isn't answered", tick(t, e), "f 10.0.1.8: database 7 1")
	}
	a.tells(t, e, hello("5.5.5.5"))
	b.tells(t, e, hello("5.5.5.5"))
	b.sync(t, e)
	a.acksAll(t, e)
	b.tells(t, e, hello())
	wantWords(t, "a tick", words(t, e.Tick()),
		"e 10.0.0.9: update R5.5.5.5+3",
		"e 10.0.0.9: update R3.3.3.3+0@3600",
		"e: hello 0.0.0.0 0.0.0.0 9.9.9.9", "f: hello 0.0.0.0 0.0.0.0 8.8.8.8")
}
