package box_test

import (
	"bytes"
	"fmt"
	"testing"

	"waystone/adv"
	"waystone/api"
	"waystone/box"
	"waystone/conf"
	"waystone/packet"
)

// spoil writes into a configuration, and into its spare room.
func spoil(c conf.Conf) {
	c = c[:cap(c)]
	for i := range c {
		c[i] = conf.Line{Head: 9, Name: "spoiled", Leaf: "spoiled", Value: "spoiled"}
	}
}

// P18.4: answers are new memory: what is written into them changes nothing, and what is done changes none of them.
func TestAnswersAreNewMemory(t *testing.T) {
	_, b := begun(t, 300, ids(1)+";"+face+";commit;commit;set interface e cost 7;commit-confirmed 9;rollback 0;set interface e cost 8;set interface e dead 99")
	answers := func() []conf.Conf {
		l := []conf.Conf{b.Running(), b.Candidate(), b.Engine().Conf()}
		for n := range 5 {
			c, e := b.Archive(n)
			wantErrno(t, "Archive", e, api.OK)
			l = append(l, c)
		}
		return l
	}
	before := stands(b)
	kept := answers()
	told := fmt.Sprint(kept)
	for _, c := range answers() {
		spoil(c)
		if after := stands(b); after != before {
			t.Fatalf("%s, was %s", after, before)
		}
	}
	dos(t, b, "confirm;set interface e cost 9;delete interface e dead;commit;rollback 2;set interface e cost 10;commit-confirmed 1")
	ticks(t, b, 2)
	for _, c := range answers() {
		spoil(c)
	}
	if fmt.Sprint(kept) != told {
		t.Errorf("%v, was %s", kept, told)
	}
	dos(t, b, "rollback 0;set interface e hello 9;commit")
	want(t, b, "compare", "", api.OK)
}

// P18.4: what is edited changes neither what runs nor what ran, though it may have been the same.
func TestACandidateIsAlone(t *testing.T) {
	_, b := begun(t, 300, ids(1)+";"+face+";commit")
	for n, commands := range []string{"", "rollback 0", "rollback 1"} {
		dos(t, b, commands)
		ran := runs(b)
		dos(t, b, fmt.Sprintf("set router-id 0.0.0.%d;set interface a cost 5;set interface f cost 5;delete interface a;set area 0.0.0.0 cost 4", n+7))
		wantRuns(t, commands, b, ran)
	}
}

// P18.4: a packet that is handed in isn't kept or changed, nor is what is sent.
func TestPacketsAreNewMemory(t *testing.T) {
	hello := func() []byte {
		b, e := packet.Put(packet.Packet{Type: packet.Hello, Router: 7, Hello: packet.Greeting{Mask: 0xFFFFFF00, Interval: 10, Dead: 40, Priority: 1, Neighbors: []uint32{1}}})
		wantErrno(t, "packet.Put", e, api.OK)
		return b
	}
	_, b := begun(t, 300, ids(1)+";"+face+";set interface e network point-to-point;commit")
	_, other := begun(t, 300, ids(1)+";"+face+";set interface e network point-to-point;commit")
	for range 4 {
		p := hello()
		out, e := b.Take("e", addr("10.0.0.7"), p)
		wantErrno(t, "Take", e, api.OK)
		if !bytes.Equal(p, hello()) {
			t.Error("what is handed in is changed")
		}
		clear(p)
		same, e := other.Take("e", addr("10.0.0.7"), hello())
		wantErrno(t, "Take", e, api.OK)
		if !sameOuts(out, same) || stands(b) != stands(other) {
			t.Errorf("%v, want %v", out, same)
		}
		for _, o := range out {
			clear(o.Text)
		}
		out, _ = b.Tick()
		same, _ = other.Tick()
		if !sameOuts(out, same) {
			t.Errorf("%v, want %v", out, same)
		}
		for _, o := range out[:cap(out)] {
			clear(o.Text)
		}
	}
	if l := b.Engine().Seen(); len(l) != 1 || l[0].Id != 7 || l[0].State < 3 {
		t.Error(l)
	}
}

// P18.1: Engine is the box's own, and Take is its Take, errors and all.
func TestEngine(t *testing.T) {
	_, b := begun(t, 300, ids(1)+";"+face+";commit")
	if b.Engine() != b.Engine() || b.Engine() == nil {
		t.Error("it is another one")
	}
	e := b.Engine()
	dos(t, b, "set interface e cost 9;commit")
	if b.Engine() != e {
		t.Error("it is another one behind a commit")
	}
	if s, err := adv.Settings(e.Conf(), "e"); err != api.OK || s.Cost != 9 {
		t.Error(s, err)
	}
	p, _ := packet.Put(packet.Packet{Type: packet.Hello, Router: 7, Hello: packet.Greeting{Mask: 0xFFFFFF00, Interval: 10, Dead: 40}})
	ours, _ := packet.Put(packet.Packet{Type: packet.Hello, Router: 1, Hello: packet.Greeting{Mask: 0xFFFFFF00, Interval: 10, Dead: 40}})
	database, _ := packet.Put(packet.Packet{Type: packet.Database, Router: 7})
	for _, x := range []struct {
		face string
		from string
		b    []byte
		want api.Errno
	}{
		{"f", "10.0.0.7", p, api.ErrNone},
		{"", "10.0.0.7", nil, api.ErrNone},
		{"e", "10.0.0.7", nil, api.ErrShort},
		{"e", "10.0.0.7", p[:30], api.ErrForm},
		{"e", "10.0.0.1", p, api.ErrParam},
		{"e", "10.0.0.7", ours, api.ErrParam},
		{"e", "10.0.0.7", database, api.ErrState},
		{"e", "10.0.0.7", p, api.OK},
		{"e", "10.0.0.7", database, api.ErrState},
	} {
		before := stands(b)
		out, err := b.Take(x.face, addr(x.from), x.b)
		if len(out) > 0 || err != x.want || err != api.OK && stands(b) != before {
			t.Errorf("%v: %v, error %d, want %d", x.b, out, err, x.want)
		}
	}
	if l := e.Seen(); len(l) != 1 || l[0].Addr != addr("10.0.0.7") {
		t.Error(l)
	}
}

// P1: any texts end, and what isn't a command changes nothing.
func TestAnyTexts(t *testing.T) {
	_, b := begun(t, 300, ids(1)+";set interface e cost 5")
	before := stands(b)
	words := []string{"set", "router-id", "1.1", "interface", "e", "cost", "rollback", "7", "commit", "confirm", "{", ";", "\x00", "é", "show", "all"}
	for _, x := range words {
		for _, y := range words {
			for _, z := range words {
				text := x + " " + y + " " + z
				told, out, e := b.Do(text)
				if told != "" || len(out) > 0 || e != api.ErrForm || stands(b) != before {
					t.Fatalf("%q: %q, %v, error %d", text, told, out, e)
				}
			}
		}
	}
	var none *box.Box
	if _, _, e := none.Do(string(make([]byte, 1<<20))); e != api.ErrArg {
		t.Error(e)
	}
	want(t, b, string(make([]byte, 1<<20)), "", api.ErrForm)
}
