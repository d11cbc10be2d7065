package engine_test

import (
	"fmt"
	"slices"
	"strings"
	"testing"

	"waystone/api"
	"waystone/conf"
	"waystone/engine"
	"waystone/lsa"
	"waystone/packet"
	"waystone/sync"
)

// change hands another configuration to a router that takes it, and tells what is sent, in words.
func change(t *testing.T, e *engine.Engine, text string, r engine.Restart) []string {
	t.Helper()
	c := read(t, text)
	out, err := e.Change(c, r)
	if err != api.OK || !conf.Same(e.Conf(), c) {
		t.Fatalf("%s: error %d, is %v", text, err, e.Conf())
	}
	return words(t, out)
}

// pair is a router that speaks on e, and is one of two alone on f, with a neighbor that is Full on each; a tick ago all was acknowledged.
func pair(t *testing.T) (*engine.Engine, other, other) {
	t.Helper()
	e := begun(t, pairText)
	a, b := other{"e", "9.9.9.9", "10.0.0.9"}, other{"f", "8.8.8.8", "10.0.1.8"}
	for range 4 {
		e.Tick()
	}
	a.tells(t, e, speaks)
	a.sync(t, e)
	b.lead(t, e)
	a.acksAll(t, e)
	wantWords(t, "nothing is left to do", tick(t, e))
	wantWords(t, "at first", has(e, "0.0.0.0"), "R5.5.5.5+2@1", "N10.0.0.2/5.5.5.5+0@1")
	wantWords(t, "at first", stands(e), "e 10.0.0.2 9.9.9.9 10.0.0.9", "f 0.0.0.0 8.8.8.8 10.0.1.8")
	return e, a, b
}

var (
	pairText = us + iface("e", "10.0.0.2/24", "priority 9") + iface("f", "10.0.1.2/24", two)
	speaks   = helloOf(1, "10.0.0.2", "0.0.0.0", "5.5.5.5")
)

// P16.1, P16.4: a configuration that can't be used changes nothing.
func TestChangeToWhatCantBe(t *testing.T) {
	for _, c := range wrongs(t) {
		for _, r := range []engine.Restart{{}, {Whole: true}, {Resets: []string{"e"}, Restarts: []string{"f"}}} {
			e, _, _ := pair(t)
			before := all(e)
			if out, err := e.Change(c, r); err != api.ErrRule || len(out) != 0 {
				t.Errorf("%v: %v, error %d", c, out, err)
			}
			if after := all(e); after != before {
				t.Errorf("%v: %s, was %s", c, after, before)
			}
		}
	}
}

// P16.1: where nothing begins anew, neighbors stand as they stood, and what follows is told.
func TestChangeOfNumbers(t *testing.T) {
	e, a, b := pair(t)
	before := all(e)
	wantWords(t, "the same", change(t, e, pairText, engine.Restart{}))
	wantWords(t, "names of no interface", change(t, e, pairText, engine.Restart{Resets: []string{"", "x"}, Restarts: []string{"E", "area 0.0.0.0"}}))
	if after := all(e); after != before {
		t.Errorf("%s, was %s", after, before)
	}
	text := us + iface("e", "10.0.0.2/24", "priority 3", "cost 77", "retransmit 2") + iface("f", "10.0.1.2/24", two)
	wantWords(t, "cost", change(t, e, text, engine.Restart{}), "e 10.0.0.9: update R5.5.5.5+3", "f 10.0.1.8: update R5.5.5.5+3")
	wantState(t, e, a, sync.Full)
	wantState(t, e, b, sync.Full)
	if l := ours(t, e); l.Links[0].Cost != 77 || l.Links[1].Cost != 10 {
		t.Errorf("%v", l)
	}
	out := e.Tick()
	p, _ := packet.Get(out[0].Text, "")
	if p.Hello.Priority != 3 {
		t.Errorf("%v", p)
	}
	wantWords(t, "its Hellos", words(t, out), "e: hello 10.0.0.2 10.0.0.9 9.9.9.9", "f: hello 0.0.0.0 0.0.0.0 8.8.8.8")
	b.acksAll(t, e)
	var again []int
	for n := range 9 {
		a.tells(t, e, speaks)
		b.tells(t, e, hello("5.5.5.5"))
		if len(tick(t, e)) > 0 {
			again = append(again, n)
		}
	}
	if len(again) < 3 || again[1] != again[0]+2 || again[2] != again[1]+2 {
		t.Errorf("sent again at %v", again)
	}
}

// P16.1: an interface that restarts is as begun; others stand as they stood.
func TestRestarts(t *testing.T) {
	e, a, b := pair(t)
	wantWords(t, "restarts", change(t, e, pairText, engine.Restart{Restarts: []string{"e", "x"}}), "f 10.0.1.8: update R5.5.5.5+3", "f 10.0.1.8: update N10.0.0.2/5.5.5.5+0@3600")
	wantWords(t, "restarts", seen(e), "f 10.0.1.8 8.8.8.8 6")
	wantWords(t, "restarts", stands(e), "e 0.0.0.0", "f 0.0.0.0 8.8.8.8 10.0.1.8")
	wantWords(t, "restarts", has(e, "0.0.0.0"), "R5.5.5.5+3", "N10.0.0.2/5.5.5.5+0@3600")
	b.acksAll(t, e)
	a.refuses(t, "it is gone", e, database(7, 1), api.ErrState)
	for range 3 {
		a.tells(t, e, speaks)
		b.tells(t, e, hello("5.5.5.5"))
		wantWords(t, "the wait", tick(t, e))
		wantState(t, e, a, sync.TwoWay)
	}
	a.tells(t, e, speaks)
	wantWords(t, "the wait is over", tick(t, e), "e 10.0.0.9: database 7 1")
}

// P16.1: neighbors of an interface that is reset are gone; who speaks, and the wait, are as they were.
func TestResets(t *testing.T) {
	e, a, b := pair(t)
	wantWords(t, "resets", change(t, e, pairText, engine.Restart{Resets: []string{"e", "x"}}), "f 10.0.1.8: update R5.5.5.5+3", "f 10.0.1.8: update N10.0.0.2/5.5.5.5+0@3600")
	wantWords(t, "resets", seen(e), "f 10.0.1.8 8.8.8.8 6")
	wantWords(t, "resets", stands(e), "e 10.0.0.2", "f 0.0.0.0 8.8.8.8 10.0.1.8")
	wantWords(t, "at once", a.tells(t, e, speaks), "e 10.0.0.9: database 7 1")
	wantWords(t, "both", change(t, e, pairText, engine.Restart{Resets: []string{"f", "e"}}), nothing...)
	wantWords(t, "both", seen(e))
	wantWords(t, "both", has(e, "0.0.0.0"), "R5.5.5.5+4", "N10.0.0.2/5.5.5.5+0@3600")
	b.tells(t, e, hello("5.5.5.5"))
	wantState(t, e, b, sync.ExStart)
	// what is both begins anew
	wantWords(t, "reset and restarted", change(t, e, pairText, engine.Restart{Resets: []string{"e"}, Restarts: []string{"e"}}), nothing...)
	wantWords(t, "reset and restarted", stands(e), "e 0.0.0.0", "f 0.0.0.0")
}

var nothing []string

// P16.1: if the whole begins anew, nobody is known, and nothing is told but what we tell alone.
func TestWhole(t *testing.T) {
	e, a, _ := pair(t)
	a.tells(t, e, update(router("1.1.1.1", 0, 1)))
	text := "router-id 6.6.6.6;\n" + pairText[len(us):]
	wantWords(t, "whole", change(t, e, text, engine.Restart{Whole: true}))
	wantWords(t, "whole", stands(e), "e 0.0.0.0", "f 0.0.0.0")
	wantWords(t, "whole", seen(e))
	wantWords(t, "whole", has(e, "0.0.0.0"), "R6.6.6.6+0")
	a.tells(t, e, helloOf(1, "10.0.0.2", "0.0.0.0", "5.5.5.5", "6.6.6.6"))
	wantState(t, e, a, sync.TwoWay)
	a.refuses(t, "the wait", e, database(7, 1), api.ErrState)
	n, _ := e.Neighbor("e", addr(a.addr))
	if n.Me != addr("6.6.6.6") {
		t.Errorf("%v", n)
	}
	other{"e", "6.6.6.6", "10.0.0.7"}.refuses(t, "our number", e, hello(), api.ErrParam)
	other{"e", "5.5.5.5", "10.0.0.7"}.tells(t, e, hello())
	// by the same number, too
	wantWords(t, "whole", change(t, e, text, engine.Restart{Whole: true, Resets: []string{"e"}}))
	wantWords(t, "whole", seen(e))
	wantWords(t, "whole", has(e, "0.0.0.0"), "R6.6.6.6+0")
}

// P16.1: Hellos are due at the next tick of interfaces that are as begun, and of no other ones.
func TestHellosBehindAChange(t *testing.T) {
	text := func(hello string) string {
		return us + iface("e", "10.0.0.2/24", hello, "dead 99") + iface("f", "10.0.1.2/24", "hello 5", "dead 99")
	}
	both, e, f := []string{"e: hello 0.0.0.0 0.0.0.0", "f: hello 0.0.0.0 0.0.0.0"}, "e: hello 0.0.0.0 0.0.0.0", "f: hello 0.0.0.0 0.0.0.0"
	for _, a := range []struct {
		hello string
		r     engine.Restart
		want  [][]string // two ticks behind the first Hellos, tick by tick
	}{
		{"hello 5", engine.Restart{}, [][]string{nil, nil, both, nil}},
		{"hello 5", engine.Restart{Resets: []string{"e"}}, [][]string{nil, nil, both, nil}},
		{"hello 5", engine.Restart{Restarts: []string{"e"}}, [][]string{{e}, nil, {f}, nil, nil, {e}, nil, {f}}},
		{"hello 5", engine.Restart{Restarts: []string{"f", "e"}}, [][]string{both, nil, nil, nil, nil, both}},
		{"hello 5", engine.Restart{Whole: true}, [][]string{both, nil, nil, nil, nil, both}},
		// every Hello ticks, as they are set now
		{"hello 3", engine.Restart{Resets: []string{"e"}}, [][]string{{e}, nil, {f}, {e}, nil, nil, {e}, {f}}},
		{"hello 1", engine.Restart{Resets: []string{"e"}}, [][]string{{e}, {e}, both, {e}}},
		{"hello 7", engine.Restart{Resets: []string{"e"}}, [][]string{nil, nil, {f}, nil, {e}, nil, nil, {f}}},
	} {
		r := begun(t, text("hello 5"))
		wantWords(t, "at first", words(t, r.Tick()), both...)
		r.Tick()
		r.Tick()
		change(t, r, text(a.hello), a.r)
		for i, want := range a.want {
			wantWords(t, fmt.Sprint(a.hello, a.r, ": tick ", i), words(t, r.Tick()), want...)
		}
	}
	// a Hello that was due is due yet
	r := begun(t, text("hello 5"))
	change(t, r, text("hello 50"), engine.Restart{})
	wantWords(t, "the first tick", words(t, r.Tick()), both...)
}

// P16.1: interfaces that are no more are gone, and new ones begin, each with its area's Db.
func TestInterfacesComeAndGo(t *testing.T) {
	e, a, b := pair(t)
	text := us + iface("f", "10.0.1.2/24", two) + iface("g", "10.0.2.2/24", "area 0.0.0.7", "priority 0")
	wantWords(t, "one for another one", change(t, e, text, engine.Restart{}), "f 10.0.1.8: update R5.5.5.5+3", "f 10.0.1.8: update N10.0.0.2/5.5.5.5+0@3600")
	wantWords(t, "one for another one", stands(e), "f 0.0.0.0 8.8.8.8 10.0.1.8", "g 0.0.0.0")
	wantWords(t, "one for another one", has(e, "0.0.0.7"), "R5.5.5.5+0")
	a.refuses(t, "it is gone", e, hello("5.5.5.5"), api.ErrNone)
	wantWords(t, "a tick", words(t, e.Tick()), "f: hello 0.0.0.0 0.0.0.0 8.8.8.8", "g: hello 0.0.0.0 0.0.0.0")
	b.acksAll(t, e)
	// an interface that comes back knows nobody
	wantWords(t, "it comes back", change(t, e, pairText, engine.Restart{}), "f 10.0.1.8: update R5.5.5.5+4")
	wantWords(t, "it comes back", stands(e), "e 0.0.0.0", "f 0.0.0.0 8.8.8.8 10.0.1.8")
	wantWords(t, "no interface stands there", has(e, "0.0.0.7"))
	wantWords(t, "no interface at all", change(t, e, us, engine.Restart{}))
	if len(e.Faces()) != 0 || len(e.Seen()) != 0 || len(e.Heads(0)) != 0 || len(e.Tick()) != 0 {
		t.Errorf("%s", all(e))
	}
	// and what was told there isn't there when one comes again
	wantWords(t, "as at first", change(t, e, pairText, engine.Restart{}))
	wantWords(t, "as at first", has(e, "0.0.0.0"), "R5.5.5.5+0")
}

// P16.1: an interface that moves to another area leaves the one in which others stand, and is told there as it is.
func TestMoves(t *testing.T) {
	e, _, b := pair(t)
	text := us + iface("e", "10.0.0.2/24", "priority 9", "area 0.0.0.7") + iface("f", "10.0.1.2/24", two)
	wantWords(t, "moves", change(t, e, text, engine.Restart{Restarts: []string{"e"}}), "f 10.0.1.8: update R5.5.5.5+3", "f 10.0.1.8: update N10.0.0.2/5.5.5.5+0@3600")
	wantWords(t, "moves", has(e, "0.0.0.7"), "R5.5.5.5+0")
	if l := ours(t, e); len(l.Links) != 2 || l.Links[0].Type != 1 {
		t.Errorf("%v", l)
	}
	b.acksAll(t, e)
	// as it stands, it owes what isn't there: just what is there is sent again
	e, a, b := pair(t)
	b.tells(t, e, update(router("2.2.2.2", 0, 1)))
	wantWords(t, "owed", a.owes(e), "R2.2.2.2")
	change(t, e, us+iface("e", "10.0.0.2/24", "area 0.0.0.7")+iface("f", "10.0.1.2/24", two), engine.Restart{})
	wantState(t, e, a, sync.Full)
	wantWords(t, "owed", a.owes(e), "R2.2.2.2", "R5.5.5.5", "N10.0.0.2/5.5.5.5")
	p := speaks
	p.Area = 7
	var sent []string
	for range 5 {
		a.tells(t, e, p)
		sent = append(sent, words(t, e.Tick())...)
	}
	wantWords(t, "sent again", slices.DeleteFunc(sent, func(s string) bool { return !strings.Contains(s, "e 10.0.0.9: update") }), "e 10.0.0.9: update R5.5.5.5+0@3 N10.0.0.2/5.5.5.5+0@3")
}

// P16.1, P16.2: with another number of ours, neighbors that stay are led by it from then on.
func TestAnotherNumberOfOurs(t *testing.T) {
	e, a, b := pair(t)
	text := "router-id 200.0.0.1;\n" + pairText[len(us):]
	change(t, e, text, engine.Restart{})
	n, _ := e.Neighbor("e", addr(a.addr))
	m, _ := e.Neighbor("f", addr(b.addr))
	if n.Me != addr("200.0.0.1") || m.Me != n.Me || n.State != sync.Full {
		t.Errorf("%v, %v", n, m)
	}
	b.tells(t, e, hello("5.5.5.5"))
	b.tells(t, e, hello("200.0.0.1"))
	seq := uint32(52)
	wantWords(t, "we lead", b.tells(t, e, database(0, seq)), "f 10.0.1.8: database 1 53 R5.5.5.5+2@1 R200.0.0.1+1 N10.0.0.2/5.5.5.5+0@1 N10.0.0.2/200.0.0.1+0")
}

// P16.1: what is ours there already is told by the number behind it, also when it comes back.
func TestToldAgainBehindAChange(t *testing.T) {
	e, a, _ := pair(t)
	change(t, e, us+iface("e", "10.0.0.3/24", "priority 9")+iface("f", "10.0.1.2/24", two), engine.Restart{})
	wantWords(t, "another address", has(e, "0.0.0.0"), "R5.5.5.5+3", "N10.0.0.2/5.5.5.5+0@3600", "N10.0.0.3/5.5.5.5+0")
	change(t, e, pairText, engine.Restart{})
	wantState(t, e, a, sync.Full)
	wantWords(t, "the first one", stands(e)[:1], "e 10.0.0.2 9.9.9.9 10.0.0.9")
	wantWords(t, "the first one", has(e, "0.0.0.0"), "R5.5.5.5+4", "N10.0.0.2/5.5.5.5+1", "N10.0.0.3/5.5.5.5+0@3600")
	l, _ := e.Find(0, networkKey)
	if l.Age != 0 || l.Seq != api.FirstSeq+1 || l.Key.Type != lsa.Network {
		t.Errorf("%v", l)
	}
}
