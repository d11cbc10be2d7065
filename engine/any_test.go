package engine_test

import (
	"math/rand"
	"slices"
	"testing"

	"waystone/adv"
	"waystone/api"
	"waystone/engine"
	"waystone/lsa"
	"waystone/packet"
)

// anyLsa is one of a few keys, ours among them, numbers and ages, so that many meet; ages are near those at which something is done.
func anyLsa(r *rand.Rand, n *node) lsa.Lsa {
	ids := 3
	if n.wild {
		ids = 25
	}
	id := []uint32{adv.Id(n.e.Conf()), 0x01010101, uint32(r.Intn(ids))}[r.Intn(3)]
	l := lsa.Lsa{Age: []int{0, 0, 0, 1, 899, 900, 901, 1799, 1800, 3590, 3598, 3599, 3600}[r.Intn(13)], Key: lsa.Key{Type: 1 + r.Intn(3), Id: id, Adv: id}}
	l.Seq = api.FirstSeq + r.Intn(4)
	if n.wild && r.Intn(15) == 0 {
		l.Seq = api.LastSeq - r.Intn(2)
	}
	switch l.Key.Type {
	case lsa.Router:
		l.Links = []lsa.Link{{Type: 3, Cost: r.Intn(2)}}
	case lsa.Network:
		l.Key.Id = n.address("x")
		l.Routers = []uint32{uint32(r.Intn(2))}
	default:
		l.Cost = r.Intn(2)
	}
	// what is there, made newer or older
	if heads := n.e.Heads(0); len(heads) > 0 && r.Intn(2) == 0 {
		l, _ = n.e.Find(0, heads[r.Intn(len(heads))].Key)
		l.Age = []int{l.Age, 3600, 0}[r.Intn(3)]
		l.Seq = max(api.FirstSeq, min(api.LastSeq, l.Seq+r.Intn(3)-1))
	}
	return l
}

// spoiled is a packet with a change that may be, or none.
func spoiled(r *rand.Rand, n *node, p packet.Packet) packet.Packet {
	switch r.Intn(9) {
	case 0:
		p.Router = []uint32{adv.Id(n.e.Conf()), p.Router + 1}[r.Intn(2)]
	case 1:
		p.Area ^= uint32(r.Intn(2))
	}
	switch p.Type {
	case packet.Hello:
		spoilHello(r, &p.Hello)
	case packet.Database:
		p.Flags, p.Seq = []int{p.Flags, p.Flags, r.Intn(8)}[r.Intn(3)], p.Seq+uint32(r.Intn(8)/7)
		p.Heads = p.Heads[:len(p.Heads)-min(len(p.Heads), r.Intn(9)/8)]
	case packet.Request:
		p.Keys = append(p.Keys[:0:0], p.Keys[:min(len(p.Keys), 15)]...)
		for range r.Intn(3) {
			p.Keys = append(p.Keys, anyLsa(r, n).Key)
		}
	case packet.Update:
		p.Lsas = append(p.Lsas[:0:0], p.Lsas[:min(len(p.Lsas), 12)]...)
		for range r.Intn(9) {
			p.Lsas = append(p.Lsas, anyLsa(r, n))
		}
	case packet.Ack:
		for i := range p.Heads {
			p.Heads[i].Seq += r.Intn(9) / 8
			p.Heads[i].Sum += uint16(r.Intn(9) / 8)
		}
	}
	return p
}

func spoilHello(r *rand.Rand, g *packet.Greeting) {
	switch r.Intn(12) {
	case 0:
		g.Mask ^= 1
	case 1:
		g.Interval++
	case 2:
		g.Dead++
	case 3:
		g.Neighbors = nil
	case 4:
		g.Priority = r.Intn(4)
	case 5:
		g.Dr, g.Bdr = g.Bdr, g.Dr
	}
}

// handIn hands a packet in as it came, or otherwise, or not at all, and tells what is sent.
func handIn(r *rand.Rand, p onWay) []engine.Out {
	n, b := p.to, p.b
	set, _ := adv.Settings(n.e.Conf(), p.face)
	switch r.Intn(12) {
	case 0:
		return nil
	case 1:
		b = slices.Clone(b)
		b[r.Intn(len(b))] ^= byte(1 << r.Intn(8))
	case 2:
		b = b[:r.Intn(len(b)+1)]
	case 3:
		p.from = []uint32{set.Addr, p.from + uint32(r.Intn(20)), 0}[r.Intn(3)]
	case 4:
		p.face = []string{"x", "y", "z", "", "w"}[r.Intn(5)]
	case 5, 6, 7:
		if q, err := packet.Get(b, set.Auth); err == api.OK {
			b, _ = packet.Put(spoiled(r, n, q))
		}
	}
	return n.takeWell(p.face, p.from, b)
}

// takeWell is take, but that with an error just that is as it was is asked, too.
func (n *node) takeWell(face string, from uint32, b []byte) []engine.Out {
	before := ""
	if n.calls%5 == 0 {
		before = all(n.e)
	}
	kept := slices.Clone(b)
	out, err := n.take(face, from, b)
	if err != api.OK && (len(out) > 0 || before != "" && all(n.e) != before) {
		n.t.Fatalf("error %d, and yet %v, %s, was %s", err, out, all(n.e), before)
	}
	if !slices.Equal(b, kept) {
		n.t.Fatalf("what came was changed")
	}
	return out
}

func anyRestart(r *rand.Rand) engine.Restart {
	var x engine.Restart
	for _, name := range []string{"x", "y", "z", "w"} {
		if r.Intn(4) == 0 {
			x.Resets = append(x.Resets, name)
		}
		if r.Intn(4) == 0 {
			x.Restarts = append(x.Restarts, name)
		}
	}
	x.Whole = r.Intn(9) == 0
	return x
}

// P16.1, P16.4, P1: whatever comes, and however it was spoiled, a router does as the document tells, by other means.
func TestAnyPackets(t *testing.T) {
	r := rand.New(rand.NewSource(161))
	for round := range 40 {
		networks := anyNetworks(r)
		w := &nets{t: t, takes: r.Intn}
		for i := range 3 {
			n := newNode(t, anyRouter(t, r, networks, i))
			n.wild = round%2 == 0
			w.nodes = append(w.nodes, n)
		}
		w.tick(12)
		for range 250 {
			n := w.nodes[r.Intn(3)]
			switch k := r.Intn(40); {
			case k == 0:
				w.send(n, n.change(anyRouter(t, r, networks, slices.Index(w.nodes, n)), anyRestart(r)))
			case k < 8 || len(w.way) == 0:
				w.send(n, n.tick())
			default:
				at := r.Intn(len(w.way))
				p := w.way[at]
				if r.Intn(9) > 0 {
					w.way = slices.Delete(w.way, at, at+1)
				}
				w.send(p.to, handIn(r, p))
			}
		}
	}
}

// P16.4, P1: any bytes end, and change nothing but where they are taken.
func TestAnyBytes(t *testing.T) {
	r := rand.New(rand.NewSource(160))
	e, _, _ := pair(t)
	p := speaks
	p.Router = addr("9.9.9.9")
	right := bytesOf(t, p)
	if _, err := e.Take("e", addr("10.0.0.9"), right); err != api.OK {
		t.Fatal(err)
	}
	before := all(e)
	for range 20000 {
		b := slices.Clone(right[:r.Intn(len(right)+1)])
		for range 1 + r.Intn(3) {
			if len(b) > 0 {
				b[r.Intn(len(b))] = byte(r.Intn(256))
			}
		}
		out, err := e.Take("e", addr("10.0.0.9"), b)
		if len(out) > 0 || err == api.OK && !slices.Equal(b, right) {
			t.Fatalf("%v: %v, error %d", b, out, err)
		}
	}
	if after := all(e); after != before {
		t.Errorf("%s, was %s", after, before)
	}
}
