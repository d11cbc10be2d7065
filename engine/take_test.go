package engine_test

import (
	"fmt"
	"slices"
	"testing"

	"waystone/api"
	"waystone/engine"
	"waystone/packet"
	"waystone/sync"
)

// wantRefused asks for an error that changes nothing and sends nothing.
func wantRefused(t *testing.T, what string, e *engine.Engine, face, from string, b []byte, want api.Errno) {
	t.Helper()
	before := all(e)
	out, err := e.Take(face, addr(from), b)
	if err != want || len(out) != 0 {
		t.Errorf("%s: %v, error %d, want error %d", what, out, err, want)
	}
	if after := all(e); after != before {
		t.Errorf("%s: %s, was %s", what, after, before)
	}
}

// refuses is wantRefused of a packet of the other one.
func (o other) refuses(t *testing.T, what string, e *engine.Engine, p packet.Packet, want api.Errno) {
	t.Helper()
	p.Router = addr(o.id)
	wantRefused(t, what, e, o.face, o.addr, bytesOf(t, p), want)
}

func bytesOf(t *testing.T, p packet.Packet) []byte {
	t.Helper()
	b, err := packet.Put(p)
	if err != api.OK {
		t.Fatalf("%v: error %d", p, err)
	}
	return b
}

// others are packets of each type but a Hello.
func others() []packet.Packet {
	return []packet.Packet{database(7, 1), request(router("5.5.5.5", 0, 1).Key), update(router("9.9.9.9", 0, 1)), ack(router("9.9.9.9", 0, 1))}
}

// P16.1, P16.4: interfaces, then packets' own errors, whatever else is wrong.
func TestTakeOfWhatIsNone(t *testing.T) {
	e := begun(t, us+iface("e", "10.0.0.2/24", "auth sesame"))
	o := other{"e", "9.9.9.9", "10.0.0.9"}
	p := hello("5.5.5.5")
	p.Router, p.Auth, p.Area = addr(o.id), "sesame", 9
	right := bytesOf(t, p)
	for _, face := range []string{"", "E", "f", "ee", "0.0.0.0"} {
		wantRefused(t, "another face", e, face, o.addr, right, api.ErrNone)
		wantRefused(t, "another face", e, face, "10.0.0.2", nil, api.ErrNone)
	}
	turned := func(at int) []byte {
		b := slices.Clone(right)
		b[at] ^= 1
		return b
	}
	p.Auth = ""
	open := bytesOf(t, p)
	p.Auth = "sesam"
	for _, from := range []string{o.addr, "10.0.0.2"} {
		wantRefused(t, "no bytes", e, "e", from, nil, api.ErrShort)
		wantRefused(t, "short", e, "e", from, right[:23], api.ErrShort)
		wantRefused(t, "shorter", e, "e", from, right[:len(right)-1], api.ErrForm)
		wantRefused(t, "version", e, "e", from, turned(0), api.ErrForm)
		wantRefused(t, "sum", e, "e", from, turned(30), api.ErrSum)
		wantRefused(t, "no key", e, "e", from, open, api.ErrAuth)
		wantRefused(t, "another key", e, "e", from, bytesOf(t, p), api.ErrAuth)
		wantRefused(t, "area", e, "e", from, right, api.ErrParam)
	}
	p.Auth, p.Area = "sesame", 0
	if out, err := e.Take("e", addr(o.addr), bytesOf(t, p)); err != api.OK || len(out) != 0 {
		t.Errorf("%v, error %d", out, err)
	}
	wantWords(t, "at last", seen(e), "e 10.0.0.9 9.9.9.9 2")
	e = begun(t, us+iface("e", "10.0.0.2/24"))
	wantRefused(t, "a key where there is none", e, "e", o.addr, bytesOf(t, p), api.ErrAuth)
}

// P16.1, P16.4: other parameters than ours, ahead of who the neighbor is.
func TestTakeOfOtherParameters(t *testing.T) {
	e := begun(t, us+iface("e", "10.0.0.2/24")+iface("f", "10.0.1.2/24", two)+iface("g", "10.0.2.2/24", "area 0.0.0.7"))
	for _, face := range []string{"e", "f"} {
		own := map[string]string{"e": "10.0.0.2", "f": "10.0.1.2"}[face]
		o, ours, alike := other{face, "9.9.9.9", "10.0.0.9"}, other{face, "5.5.5.5", "10.0.0.9"}, other{face, "9.9.9.9", own}
		for _, p := range append(others(), hello(), hello("5.5.5.5")) {
			ours.refuses(t, "our number", e, p, api.ErrParam)
			alike.refuses(t, "our address", e, p, api.ErrParam)
			p.Area = 7
			o.refuses(t, "another area", e, p, api.ErrParam)
			p.Area = 1 << 24
			o.refuses(t, "another area", e, p, api.ErrParam)
		}
		for _, n := range []int{2, 3, 5, 65535} {
			p := hello("5.5.5.5")
			p.Hello.Dead = n
			o.refuses(t, "Dead", e, p, api.ErrParam)
			p.Hello.Dead, p.Hello.Interval = 4, n
			o.refuses(t, "Interval", e, p, api.ErrParam)
		}
	}
	p := hello("5.5.5.5")
	for _, mask := range []string{"0.0.0.0", "255.255.0.0", "255.255.255.128", "255.255.255.1"} {
		p.Hello.Mask = addr(mask)
		other{"e", "9.9.9.9", "10.0.0.9"}.refuses(t, "Mask", e, p, api.ErrParam)
		other{"f", "9.9.9.9", "10.0.0.9"}.tells(t, e, p)
	}
	// our address on another interface is another one's here
	other{"e", "8.8.8.8", "10.0.1.2"}.tells(t, e, hello())
	wantWords(t, "at last", seen(e), "e 10.0.1.2 8.8.8.8 1", "f 10.0.0.9 9.9.9.9 3")
}

// P16.1, P16.4: as many neighbors as may be, and not one more; those that are known are heard on.
func TestTakeOfTooMany(t *testing.T) {
	e := begun(t, us+iface("e", "10.0.0.2/24")+iface("f", "10.0.1.2/24"))
	var want []string
	for i := range 8 {
		o := other{"e", fmt.Sprintf("9.0.0.%d", i), fmt.Sprintf("10.0.0.%d", 20+i)}
		o.tells(t, e, hello())
		want = append(want, fmt.Sprintf("e %s %s 1", o.addr, o.id))
	}
	wantWords(t, "eight", seen(e), want...)
	ninth := other{"e", "7.7.7.7", "10.0.0.10"}
	ninth.refuses(t, "ninth", e, hello("5.5.5.5"), api.ErrFull)
	other{"e", "9.0.0.3", "10.0.0.10"}.refuses(t, "ninth, of a number that is known", e, hello(), api.ErrFull)
	ninth.refuses(t, "ninth, no Hello", e, database(7, 1), api.ErrState)
	wrong := hello()
	wrong.Hello.Interval = 2
	ninth.refuses(t, "ninth, other parameters", e, wrong, api.ErrParam)
	// in the place of one that is known there is room
	other{"e", "7.7.7.7", "10.0.0.23"}.tells(t, e, hello("5.5.5.5"))
	want[3] = "e 10.0.0.23 7.7.7.7 2"
	wantWords(t, "another one", seen(e), want...)
	other{"f", "7.7.7.7", "10.0.0.10"}.tells(t, e, hello())
	wantWords(t, "another interface", seen(e), append(want, "f 10.0.0.10 7.7.7.7 1")...)
	for range 4 {
		e.Tick()
	}
	ninth.tells(t, e, hello())
	wantWords(t, "there is room again", seen(e), "e 10.0.0.10 7.7.7.7 1")
}

// P16.1, P16.4: what isn't a Hello comes from one that is known by address and number, from ExStart on.
func TestTakeOfStrangers(t *testing.T) {
	e := begun(t, us+iface("e", "10.0.0.2/24")+iface("f", "10.0.1.2/24", two))
	o := other{"e", "9.9.9.9", "10.0.0.9"}
	refused := func(what string, o other) {
		t.Helper()
		for _, p := range others() {
			o.refuses(t, what, e, p, api.ErrState)
		}
	}
	refused("unknown", o)
	o.tells(t, e, hello())
	refused("Heard", o)
	o.tells(t, e, hello("5.5.5.5"))
	refused("TwoWay", o)
	o.face = "f"
	refused("on another interface", o)
	o.tells(t, e, hello("5.5.5.5"))
	wantState(t, e, o, sync.ExStart)
	refused("of another number", other{"f", "9.9.9.8", "10.0.0.9"})
	refused("of another address", other{"f", "9.9.9.9", "10.0.0.8"})
	for _, p := range others()[1:] {
		if _, err := o.take(e, p); err != api.OK {
			t.Errorf("%v: error %d", p, err)
		}
	}
	wantState(t, e, o, sync.ExStart)
}

// P16.1: what a Hello tells is kept; who is heard, and hears us, comes on.
func TestHellos(t *testing.T) {
	e := begun(t, us+iface("e", "10.0.0.2/24", "dead 9"))
	o := other{"e", "9.9.9.9", "10.0.0.9"}
	p := helloOf(200, "10.0.0.9", "10.0.0.8", "1.1.1.1")
	p.Hello.Dead = 9
	for _, a := range []struct {
		knows []string
		state int
	}{{nil, 1}, {[]string{"1.1.1.1", "5.5.5.6"}, 1}, {[]string{"1.1.1.1", "5.5.5.5"}, 2}, {[]string{"5.5.5.5", "1.1.1.1"}, 2}, {[]string{"1.1.1.1"}, 1}} {
		p.Hello.Neighbors = hello(a.knows...).Hello.Neighbors
		wantWords(t, "nothing is sent", o.tells(t, e, p))
		n, ok := e.Neighbor("e", addr(o.addr))
		want := sync.Neighbor{State: a.state, Me: addr("5.5.5.5"), Id: addr("9.9.9.9"), Priority: 200, Dr: addr("10.0.0.9"), Bdr: addr("10.0.0.8"), Left: 9}
		if !ok || fmt.Sprint(n) != fmt.Sprint(want) {
			t.Errorf("%v: %v, %v, want %v", a, n, ok, want)
		}
		e.Tick()
		if n, _ = e.Neighbor("e", addr(o.addr)); n.Left != 8 {
			t.Errorf("a tick later: %v", n)
		}
	}
}

// P16.1: of another number than ahead, it is a new one: what was Full isn't any more.
func TestAnotherNumber(t *testing.T) {
	e := begun(t, us+iface("e", "10.0.0.2/24", two)+iface("f", "10.0.1.2/24", two))
	a, b, c := other{"e", "9.9.9.9", "10.0.0.9"}, other{"f", "8.8.8.8", "10.0.1.8"}, other{"e", "7.7.7.7", "10.0.0.9"}
	a.lead(t, e)
	b.lead(t, e)
	wantWords(t, "a new one", c.tells(t, e, hello("5.5.5.5")), "e 10.0.0.9: database 7 1", "f 10.0.1.8: update R5.5.5.5+3")
	wantWords(t, "a new one", seen(e), "e 10.0.0.9 7.7.7.7 3", "f 10.0.1.8 8.8.8.8 6")
	n, _ := e.Neighbor("e", addr(c.addr))
	if want := (sync.Neighbor{State: 3, Me: addr("5.5.5.5"), Id: addr("7.7.7.7"), Priority: 1, Left: 4, Seq: 1, Wait: 5}); fmt.Sprint(n) != fmt.Sprint(want) {
		t.Errorf("%v, want %v", n, want)
	}
	a.refuses(t, "the old one", e, database(7, 50), api.ErrState)
}

// P16.1: who speaks is elected when the wait is over, of all from TwoWay on; just with the speaker and the deputy we come to have the same.
func TestElections(t *testing.T) {
	e := begun(t, us+iface("e", "10.0.0.2/24", "priority 2"))
	a, b, c, d := other{"e", "9.9.9.9", "10.0.0.9"}, other{"e", "8.8.8.8", "10.0.0.8"}, other{"e", "7.7.7.7", "10.0.0.7"}, other{"e", "6.6.6.6", "10.0.0.6"}
	greet := func() (sent []string) {
		sent = append(sent, a.tells(t, e, helloOf(1, "0.0.0.0", "0.0.0.0", "5.5.5.5"))...)
		sent = append(sent, b.tells(t, e, helloOf(3, "0.0.0.0", "0.0.0.0", "5.5.5.5"))...)
		sent = append(sent, c.tells(t, e, helloOf(0, "0.0.0.0", "0.0.0.0", "5.5.5.5"))...)
		return append(sent, d.tells(t, e, helloOf(9, "0.0.0.0", "0.0.0.0"))...)
	}
	for range 3 {
		wantWords(t, "the wait", greet())
		wantWords(t, "the wait", tick(t, e))
		wantWords(t, "the wait", stands(e), "e 0.0.0.0")
	}
	wantWords(t, "the wait", greet())
	// 8.8.8.8 is found the deputy, and then the speaker; d, who doesn't hear us, isn't asked
	wantWords(t, "the wait is over", words(t, e.Tick()), "e 10.0.0.8: database 7 1", "e: hello 10.0.0.8 10.0.0.8 6.6.6.6 7.7.7.7 8.8.8.8 9.9.9.9")
	wantWords(t, "the wait is over", seen(e), "e 10.0.0.6 6.6.6.6 1", "e 10.0.0.7 7.7.7.7 2", "e 10.0.0.8 8.8.8.8 3", "e 10.0.0.9 9.9.9.9 2")
	wantWords(t, "the wait is over", stands(e), "e 10.0.0.8")
	// as it speaks, we are the deputy: all from TwoWay on are to have the same as we
	wantWords(t, "it speaks", b.tells(t, e, helloOf(3, "10.0.0.8", "0.0.0.0", "5.5.5.5")), "e 10.0.0.7: database 7 1", "e 10.0.0.9: database 7 1")
	wantWords(t, "it speaks", words(t, e.Tick()), "e: hello 10.0.0.8 10.0.0.2 6.6.6.6 7.7.7.7 8.8.8.8 9.9.9.9")
	// the speaker falls silent: we speak, and a is the deputy
	b.tells(t, e, helloOf(3, "10.0.0.8", "0.0.0.0"))
	wantWords(t, "it doesn't hear us", stands(e), "e 10.0.0.2")
	wantWords(t, "it doesn't hear us", words(t, e.Tick()), "e: hello 10.0.0.2 10.0.0.9 6.6.6.6 7.7.7.7 8.8.8.8 9.9.9.9")
	// another one speaks, and is above us, so that we are the deputy
	a.tells(t, e, helloOf(1, "0.0.0.0", "0.0.0.0", "5.5.5.5"))
	c.tells(t, e, helloOf(0, "0.0.0.0", "0.0.0.0", "5.5.5.5"))
	wantWords(t, "d comes", d.tells(t, e, helloOf(9, "10.0.0.6", "10.0.0.9", "5.5.5.5")), "e 10.0.0.6: database 7 1")
	wantWords(t, "d comes", words(t, e.Tick()), "e: hello 10.0.0.6 10.0.0.2 6.6.6.6 7.7.7.7 8.8.8.8 9.9.9.9")
	wantWords(t, "d comes", seen(e), "e 10.0.0.6 6.6.6.6 3", "e 10.0.0.7 7.7.7.7 3", "e 10.0.0.8 8.8.8.8 1", "e 10.0.0.9 9.9.9.9 3")
	// another one is the deputy, and is above us: all but these two fall back
	wantWords(t, "all agree", a.tells(t, e, helloOf(5, "10.0.0.6", "10.0.0.9", "5.5.5.5")))
	wantWords(t, "all agree", words(t, e.Tick()), "e: hello 10.0.0.6 10.0.0.9 6.6.6.6 7.7.7.7 8.8.8.8 9.9.9.9")
	wantWords(t, "all agree", seen(e), "e 10.0.0.6 6.6.6.6 3", "e 10.0.0.7 7.7.7.7 2", "e 10.0.0.8 8.8.8.8 1", "e 10.0.0.9 9.9.9.9 3")
}

// P16.1, P16.3: as the speaker we tell a Network Lsa of those that are Full, and end it when nobody is.
func TestTheSpeakerTellsTheNetwork(t *testing.T) {
	e := begun(t, us+iface("e", "10.0.0.2/24", "priority 9")+iface("f", "10.0.1.2/24", two))
	a, b := other{"e", "9.9.9.9", "10.0.0.9"}, other{"f", "8.8.8.8", "10.0.1.8"}
	for range 4 {
		e.Tick()
	}
	wantWords(t, "it comes", a.tells(t, e, helloOf(1, "10.0.0.2", "0.0.0.0", "5.5.5.5")), "e 10.0.0.9: database 7 1")
	b.lead(t, e)
	a.tells(t, e, database(7, 50))
	wantWords(t, "Full by a Database", a.tells(t, e, database(1, 51)),
		"e 10.0.0.9: database 0 51",
		"e 10.0.0.9: update R5.5.5.5+2", "f 10.0.1.8: update R5.5.5.5+2",
		"e 10.0.0.9: update N10.0.0.2/5.5.5.5+0", "f 10.0.1.8: update N10.0.0.2/5.5.5.5+0")
	a.acksAll(t, e)
	b.acksAll(t, e)
	l, _ := e.Find(0, networkKey)
	if l.Mask != mask24 || !slices.Equal(l.Routers, []uint32{addr("5.5.5.5"), addr("9.9.9.9")}) {
		t.Errorf("%v", l)
	}
	wantWords(t, "it doesn't hear us", a.tells(t, e, helloOf(1, "10.0.0.2", "0.0.0.0")), "f 10.0.1.8: update R5.5.5.5+3", "f 10.0.1.8: update N10.0.0.2/5.5.5.5+0@3600")
	wantWords(t, "nothing more", a.tells(t, e, helloOf(1, "10.0.0.2", "0.0.0.0")))
	b.acksAll(t, e)
	wantWords(t, "till it is dropped", has(e, "0.0.0.0"), "R5.5.5.5+3", "N10.0.0.2/5.5.5.5+0@3600")
	wantWords(t, "it is dropped", tick(t, e))
	wantWords(t, "it is dropped", has(e, "0.0.0.0"), "R5.5.5.5+3@1")
	a.tells(t, e, helloOf(1, "10.0.0.2", "0.0.0.0", "5.5.5.5"))
	a.sync(t, e)
	wantWords(t, "from the first number on", has(e, "0.0.0.0"), "R5.5.5.5+4", "N10.0.0.2/5.5.5.5+0")
}

// P16.1: an exchange in which we are led, and one in which we lead, packet by packet.
func TestExchanges(t *testing.T) {
	e := begun(t, us+iface("e", "10.0.0.2/24", two)+iface("f", "10.0.1.2/24", two))
	above, below := other{"e", "9.9.9.9", "10.0.0.9"}, other{"f", "1.1.1.1", "10.0.1.1"}
	nine, one := router("9.9.9.9", 3, 1), router("1.1.1.1", 4, 1)
	wantWords(t, "led", above.tells(t, e, hello("5.5.5.5")), "e 10.0.0.9: database 7 1")
	wantWords(t, "led", above.tells(t, e, database(7, 50)), "e 10.0.0.9: database 0 50 R5.5.5.5+0")
	wantWords(t, "led", above.tells(t, e, database(1, 51, nine)), "e 10.0.0.9: database 0 51", "e 10.0.0.9: request R9.9.9.9")
	wantWords(t, "led", above.tells(t, e, update(nine)), "e 10.0.0.9: ack R9.9.9.9+3", "e 10.0.0.9: update R5.5.5.5+1")
	wantWords(t, "acknowledged", above.tells(t, e, ack(ours(t, e))))
	wantWords(t, "leads", below.tells(t, e, hello("5.5.5.5")), "f 10.0.1.1: database 7 1")
	wantWords(t, "leads", below.tells(t, e, database(7, 50)))
	wantWords(t, "leads", below.tells(t, e, database(0, 1, one)), "f 10.0.1.1: database 1 2 R5.5.5.5+1 R9.9.9.9+3")
	wantWords(t, "leads", below.tells(t, e, database(0, 2)), "f 10.0.1.1: request R1.1.1.1")
	wantWords(t, "is asked", below.tells(t, e, request(nine.Key, ours(t, e).Key)), "f 10.0.1.1: update R9.9.9.9+3 R5.5.5.5+1")
	wantWords(t, "leads", below.tells(t, e, update(one)),
		"e 10.0.0.9: update R1.1.1.1+4", "f 10.0.1.1: ack R1.1.1.1+4",
		"e 10.0.0.9: update R5.5.5.5+2", "f 10.0.1.1: update R5.5.5.5+2")
	wantWords(t, "both are Full", stands(e), "e 0.0.0.0 9.9.9.9 10.0.0.9", "f 0.0.0.0 1.1.1.1 10.0.1.1")
	// what isn't there can't be asked for: it begins anew, and isn't Full any more
	wantWords(t, "is asked", below.tells(t, e, request(router("2.2.2.2", 0, 1).Key)), "f 10.0.1.1: database 7 3", "e 10.0.0.9: update R5.5.5.5+3")
	wantWords(t, "another flag", above.tells(t, e, database(7, 99)), "e 10.0.0.9: database 7 52")
	wantWords(t, "nobody is Full", stands(e), "e 0.0.0.0", "f 0.0.0.0")
	wantWords(t, "nobody is Full", has(e, "0.0.0.0"), "R1.1.1.1+4", "R5.5.5.5+4", "R9.9.9.9+3")
}
