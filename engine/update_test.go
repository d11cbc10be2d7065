package engine_test

import (
	"fmt"
	"slices"
	"testing"

	"waystone/api"
	"waystone/engine"
	"waystone/lsa"
	"waystone/packet"
	"waystone/sync"
)

var networkKey = lsa.Key{Type: lsa.Network, Id: 0x0A000002, Adv: 0x05050505}

// ours is our Router Lsa of area 0.0.0.0 as it is.
func ours(t *testing.T, e *engine.Engine) lsa.Lsa {
	t.Helper()
	l, ok := e.Find(0, lsa.Key{Type: lsa.Router, Id: addr("5.5.5.5"), Adv: addr("5.5.5.5")})
	if !ok {
		t.Fatal("nothing of ours is there")
	}
	return l
}

// three are a router's neighbors: two that are Full, one on each of two networks, and a third one, that is asked for 7.7.7.7.
func three(t *testing.T) (e *engine.Engine, a, b, c other) {
	t.Helper()
	e = begun(t, us+iface("e", "10.0.0.2/24", two)+iface("f", "10.0.1.2/24", two))
	a, b, c = other{"e", "9.9.9.9", "10.0.0.9"}, other{"f", "8.8.8.8", "10.0.1.8"}, other{"e", "7.7.7.7", "10.0.0.7"}
	a.lead(t, e, router("1.1.1.1", 5, 1))
	b.lead(t, e)
	a.acksAll(t, e)
	c.tells(t, e, hello("5.5.5.5"))
	c.tells(t, e, database(7, 50))
	c.tells(t, e, database(1, 51, router("7.7.7.7", 0, 1)))
	wantState(t, e, c, sync.Loading)
	wantWords(t, "at first", has(e, "0.0.0.0"), "R1.1.1.1+5", "R5.5.5.5+2")
	return e, a, b, c
}

// owes is what is owed to the other one, in words.
func (o other) owes(e *engine.Engine) []string {
	n, _ := e.Neighbor(o.face, addr(o.addr))
	var l []string
	for _, k := range n.Owe {
		l = append(l, keyWord(k))
	}
	return l
}

// P16.1: a newer one, or a new one, is there, goes to all others, and is acknowledged.
func TestANewerLsa(t *testing.T) {
	for _, l := range []lsa.Lsa{router("1.1.1.1", 6, 1), router("3.3.3.3", 0, 1), aged(3600, router("1.1.1.1", 5, 1)), aged(7, router("1.1.1.1", 6, 2))} {
		e, a, b, c := three(t)
		word := wordOf(l)
		wantWords(t, "newer", a.tells(t, e, update(l)), "e 10.0.0.7: update"+word, "f 10.0.1.8: update"+word, "e 10.0.0.9: ack"+word)
		if got, ok := e.Find(0, l.Key); !ok || got.Seq != l.Seq || got.Age != l.Age || !lsa.Alike(got, l) {
			t.Errorf("%v, %v, want %v", got, ok, l)
		}
		wantWords(t, "owed", a.owes(e))
		wantWords(t, "owed", b.owes(e), keyWord(l.Key))
		wantWords(t, "owed", c.owes(e), keyWord(l.Key))
		// what one owes is acknowledged by what comes from it, too
		wantWords(t, "the same", b.tells(t, e, update(l)), "f 10.0.1.8: ack"+word)
		wantWords(t, "owed", b.owes(e))
		newest := router("1.1.1.1", 9, 9)
		newest.Key = l.Key
		wantWords(t, "newer yet", c.tells(t, e, update(newest))[:2], "e 10.0.0.9: update "+keyWord(l.Key)+"+9", "f 10.0.1.8: update "+keyWord(l.Key)+"+9")
		wantWords(t, "owed", c.owes(e))
	}
}

// wordOf is an Lsa as words tell it behind its packet's kind.
func wordOf(l lsa.Lsa) string {
	return wordsOf(packet.Packet{Heads: headsOf([]lsa.Lsa{l})})
}

// P16.1: what is older than ours isn't taken: ours goes to that neighbor alone.
func TestAnOlderLsa(t *testing.T) {
	for _, l := range []lsa.Lsa{router("1.1.1.1", 4, 1), router("1.1.1.1", 0, 9), aged(3600, router("1.1.1.1", 4, 1)), aged(901, router("1.1.1.1", 5, 1))} {
		e, a, b, c := three(t)
		for _, o := range []other{a, b, c} {
			wantWords(t, "older", o.tells(t, e, update(l)), o.face+" "+o.addr+": update R1.1.1.1+5")
			wantWords(t, "owed", o.owes(e), "R1.1.1.1")
			o.acksAll(t, e)
		}
		wantWords(t, "as it was", has(e, "0.0.0.0"), "R1.1.1.1+5", "R5.5.5.5+2")
	}
}

// P16.1: what is as ours is acknowledged, and isn't waited for any more.
func TestTheSameLsa(t *testing.T) {
	for _, age := range []int{0, 1, 900} {
		e, a, b, c := three(t)
		b.tells(t, e, update(router("7.7.7.7", 0, 1)))
		wantWords(t, "owed", c.owes(e), "R7.7.7.7")
		l := aged(age, router("7.7.7.7", 0, 1))
		word := wordOf(l)
		wantWords(t, "the same", c.tells(t, e, update(l)),
			"e 10.0.0.7: ack"+word, "e 10.0.0.7: update R5.5.5.5+3", "e 10.0.0.9: update R5.5.5.5+3", "f 10.0.1.8: update R5.5.5.5+3")
		wantState(t, e, c, sync.Full)
		wantWords(t, "owed", c.owes(e), "R5.5.5.5")
		wantWords(t, "owed", a.owes(e), "R7.7.7.7", "R5.5.5.5")
	}
}

// P16.1: what is at its end, and isn't there, isn't brought there, but is acknowledged, and not waited for any more.
func TestAnEndedLsa(t *testing.T) {
	e, a, _, c := three(t)
	wantWords(t, "not asked for", a.tells(t, e, update(aged(3600, router("3.3.3.3", 0, 1)))), "e 10.0.0.9: ack R3.3.3.3+0@3600")
	wantWords(t, "asked for", c.tells(t, e, update(aged(3600, router("7.7.7.7", 0, 1)))),
		"e 10.0.0.7: ack R7.7.7.7+0@3600", "e 10.0.0.7: update R5.5.5.5+3", "e 10.0.0.9: update R5.5.5.5+3", "f 10.0.1.8: update R5.5.5.5+3")
	wantState(t, e, c, sync.Full)
	// ours, too
	l := networkOf(0, "9.9.9.9")
	wantWords(t, "ours", a.tells(t, e, update(aged(3600, l))), "e 10.0.0.9: ack N10.0.0.2/5.5.5.5+0@3600")
	wantWords(t, "none is there", has(e, "0.0.0.0"), "R1.1.1.1+5", "R5.5.5.5+3")
	// a tick ahead of its end it is taken
	wantWords(t, "3599", a.tells(t, e, update(aged(3599, router("3.3.3.3", 0, 1))))[2:], "e 10.0.0.9: ack R3.3.3.3+0@3599")
}

// networkOf is a Network Lsa of our address that names us as who tells it.
func networkOf(behind int, routers ...string) lsa.Lsa {
	l := lsa.Lsa{Key: networkKey, Seq: api.FirstSeq + behind, Mask: mask24}
	for _, s := range routers {
		l.Routers = append(l.Routers, addr(s))
	}
	return l
}

// P16.1: several at once, each by itself, and one Ack of those that are acknowledged, in order.
func TestSeveralLsas(t *testing.T) {
	e, a, _, _ := three(t)
	wantWords(t, "several", a.tells(t, e, update(router("4.4.4.4", 1, 1), router("1.1.1.1", 4, 1), aged(3600, router("6.6.6.6", 0, 1)), router("3.3.3.3", 0, 1), router("4.4.4.4", 1, 1), router("4.4.4.4", 0, 1))),
		"e 10.0.0.7: update R4.4.4.4+1", "f 10.0.1.8: update R4.4.4.4+1",
		"e 10.0.0.9: update R1.1.1.1+5",
		"e 10.0.0.7: update R3.3.3.3+0", "f 10.0.1.8: update R3.3.3.3+0",
		"e 10.0.0.9: update R4.4.4.4+1",
		"e 10.0.0.9: ack R4.4.4.4+1 R6.6.6.6+0@3600 R3.3.3.3+0 R4.4.4.4+1")
	wantWords(t, "nothing", a.tells(t, e, update()))
	wantWords(t, "all", has(e, "0.0.0.0"), "R1.1.1.1+5", "R3.3.3.3+0", "R4.4.4.4+1", "R5.5.5.5+2")
}

// P16.1: what there is no room for isn't taken, flooded or acknowledged; what is there may be put anew.
func TestNoRoomForAnLsa(t *testing.T) {
	e, a, _, c := three(t)
	var many []lsa.Lsa
	for i := range 18 {
		many = append(many, router(fmt.Sprintf("10.1.1.%d", i), 0, 1))
	}
	a.tells(t, e, update(many...))
	if n := len(e.Heads(0)); n != 20 {
		t.Fatalf("%d are there", n)
	}
	before := has(e, "0.0.0.0")
	wantWords(t, "no room", c.tells(t, e, update(router("7.7.7.7", 0, 1))))
	wantState(t, e, c, sync.Loading)
	wantWords(t, "no room but for one", a.tells(t, e, update(router("3.3.3.3", 0, 1), router("1.1.1.1", 6, 1), router("4.4.4.4", 0, 1))),
		"e 10.0.0.7: update R1.1.1.1+6", "f 10.0.1.8: update R1.1.1.1+6", "e 10.0.0.9: ack R1.1.1.1+6")
	before[0] = "R1.1.1.1+6"
	wantWords(t, "no room but for one", has(e, "0.0.0.0"), before...)
	n, _ := e.Neighbor("e", addr(c.addr))
	if !slices.Equal(n.Want, []lsa.Key{router("7.7.7.7", 0, 1).Key}) {
		t.Errorf("wants %v", n.Want)
	}
}

// P16.1: a newer one of ours, that we tell, is told anew, behind it, to all.
func TestANewerOneOfOurs(t *testing.T) {
	for _, a := range []struct {
		name   string
		of     func(l lsa.Lsa) lsa.Lsa
		behind int
	}{
		{"another one", func(l lsa.Lsa) lsa.Lsa { return router("5.5.5.5", 9, 1) }, 10},
		{"with what we tell", func(l lsa.Lsa) lsa.Lsa { l.Seq += 40; return l }, 43},
		{"at its end", func(l lsa.Lsa) lsa.Lsa { l.Age = 3600; return l }, 3},
		{"at its end, and newer", func(l lsa.Lsa) lsa.Lsa { l.Age = 3600; l.Seq++; return l }, 4},
		{"of the number ahead of the last one", func(l lsa.Lsa) lsa.Lsa { l.Seq = api.LastSeq - 1; return l }, api.LastSeq - api.FirstSeq},
	} {
		e, from, _, _ := three(t)
		was := ours(t, e)
		came := a.of(was)
		word := wordOf(came)
		anew := fmt.Sprintf(": update R5.5.5.5+%d", a.behind)
		wantWords(t, a.name, from.tells(t, e, update(came)),
			"e 10.0.0.7: update"+word, "f 10.0.1.8: update"+word,
			"e 10.0.0.7"+anew, "e 10.0.0.9"+anew, "f 10.0.1.8"+anew,
			"e 10.0.0.9: ack"+word)
		if got := ours(t, e); got.Age != 0 || got.Seq != api.FirstSeq+a.behind || !lsa.Alike(got, was) {
			t.Errorf("%s: %v, was %v", a.name, got, was)
		}
	}
}

// P16.1: an older one of ours, or the same, makes nothing anew.
func TestAnOlderOneOfOurs(t *testing.T) {
	e, a, _, _ := three(t)
	wantWords(t, "older", a.tells(t, e, update(router("5.5.5.5", 1, 1))), "e 10.0.0.9: update R5.5.5.5+2")
	wantWords(t, "the same", a.tells(t, e, update(ours(t, e))), "e 10.0.0.9: ack R5.5.5.5+2")
	wantWords(t, "as it was", has(e, "0.0.0.0"), "R1.1.1.1+5", "R5.5.5.5+2")
}

// P16.1, P16.3: what is ours and isn't told by us comes to its end at once.
func TestOursThatWeDontTell(t *testing.T) {
	summary := lsa.Lsa{Key: lsa.Key{Type: lsa.Summary, Id: 7, Adv: addr("5.5.5.5")}, Seq: 3, Cost: 1}
	another := router("5.5.5.5", 8, 1)
	another.Key.Id = 1
	for _, l := range []lsa.Lsa{networkOf(6, "9.9.9.9"), summary, another, aged(1800, summary)} {
		e, a, _, _ := three(t)
		end := wordOf(aged(3600, l))
		wantWords(t, "ours", a.tells(t, e, update(aged(0, l)))[3:], "e 10.0.0.7: update"+end, "e 10.0.0.9: update"+end, "f 10.0.1.8: update"+end)
		if got, ok := e.Find(0, l.Key); !ok || got.Age != 3600 || got.Seq != l.Seq {
			t.Errorf("%v: %v, %v", l, got, ok)
		}
		wantWords(t, "once", a.tells(t, e, hello("5.5.5.5")))
	}
	// another one's, of our id, is another one's
	e, a, _, _ := three(t)
	theirs := router("5.5.5.5", 8, 1)
	theirs.Key.Adv = 1
	wantWords(t, "theirs", a.tells(t, e, update(theirs))[2:], "e 10.0.0.9: ack R5.5.5.5/0.0.0.1+8")
}

// P16.1, P16.3: behind the last number there is none: ours comes to its end, and is told from the first number on.
func TestTheLastNumber(t *testing.T) {
	e := begun(t, us+iface("e", "10.0.0.2/24", two))
	a := other{"e", "9.9.9.9", "10.0.0.9"}
	a.lead(t, e)
	l := router("5.5.5.5", api.LastSeq-api.FirstSeq, 1)
	word := wordOf(l)
	end := wordOf(aged(3600, l))
	wantWords(t, "the last one", a.tells(t, e, update(l)), "e 10.0.0.9: update"+end, "e 10.0.0.9: ack"+word)
	wantWords(t, "till it is dropped", a.tells(t, e, hello("5.5.5.5")))
	wantWords(t, "till it is known", tick(t, e))
	a.tells(t, e, ack(aged(3600, l)))
	e.Tick()
	wantWords(t, "it is dropped", has(e, "0.0.0.0"))
	wantWords(t, "from the first one on", a.tells(t, e, hello("5.5.5.5")), "e 10.0.0.9: update R5.5.5.5+0")
	if got := ours(t, e); len(got.Links) != 2 {
		t.Errorf("%v", got)
	}
}

// P16.1: what is acknowledged is what is there, by number and sum, of whatever age.
func TestAcks(t *testing.T) {
	e, a, b, _ := three(t)
	l := router("3.3.3.3", 4, 1)
	b.tells(t, e, update(l, router("4.4.4.4", 0, 1)))
	wantWords(t, "owed", a.owes(e), "R3.3.3.3", "R4.4.4.4")
	for what, other := range map[string]lsa.Lsa{"number": router("3.3.3.3", 3, 1), "greater number": router("3.3.3.3", 5, 1), "sum": router("3.3.3.3", 4, 2), "key": router("2.2.2.2", 4, 1)} {
		wantWords(t, what, a.tells(t, e, ack(other)))
		wantWords(t, what, a.owes(e), "R3.3.3.3", "R4.4.4.4")
	}
	wantWords(t, "age", a.tells(t, e, ack(router("3.3.3.3", 5, 1), aged(3600, l))))
	wantWords(t, "age", a.owes(e), "R4.4.4.4")
	wantWords(t, "the rest", a.tells(t, e, ack(l, router("4.4.4.4", 0, 1))))
	wantWords(t, "the rest", a.owes(e))
}

// P16.1: an Update goes to the neighbors of its area alone, and only from Exchange on.
func TestWhoIsFlooded(t *testing.T) {
	e := begun(t, us+iface("a", "10.0.0.2/24", two)+iface("b", "10.0.1.2/24", two, "area 0.0.0.7")+iface("c", "10.0.2.2/24", two))
	a, b, c, d := other{"a", "9.9.9.9", "10.0.0.9"}, other{"b", "8.8.8.8", "10.0.1.8"}, other{"c", "7.7.7.7", "10.0.2.7"}, other{"c", "6.6.6.6", "10.0.2.6"}
	inSeven := func(p packet.Packet) {
		p.Area = 7
		b.tells(t, e, p)
	}
	inSeven(hello("5.5.5.5"))
	inSeven(database(7, 50))
	inSeven(database(1, 51))
	a.lead(t, e)
	for state, sent := range []int{0, 0, 0, 0, 1, 1, 1} {
		l := router("1.1.1.1", state, 1)
		word := wordOf(l)
		want := []string{"a 10.0.0.9: ack" + word}
		if sent > 0 {
			want = append([]string{"c 10.0.2.7: update" + word}, want...)
		}
		switch state {
		case sync.Heard:
			c.tells(t, e, hello())
			d.tells(t, e, hello())
		case sync.ExStart:
			c.tells(t, e, hello("5.5.5.5"))
		case sync.Exchange:
			c.tells(t, e, database(7, 50))
		case sync.Loading:
			c.tells(t, e, database(1, 51, router("7.7.7.7", 0, 1)))
		case sync.Full:
			c.tells(t, e, update(router("7.7.7.7", 0, 1)))
		}
		wantWords(t, fmt.Sprint("state ", state), a.tells(t, e, update(l)), want...)
	}
	if len(e.Heads(7)) != 1 || len(e.Heads(0)) != 3 {
		t.Errorf("%v, %v", has(e, "0.0.0.0"), has(e, "0.0.0.7"))
	}
}
