package engine

import (
	"waystone/lsa"
	"waystone/packet"
	"waystone/sync"
)

// step lets a neighbor take what comes, and sends what is to be sent then.
func (e *Engine) step(f *face, n *neighbor, comes sync.Event) {
	comes.Again = f.set.Again
	after, dos := sync.Step(n.Neighbor, comes)
	n.Neighbor = after
	for _, d := range dos {
		e.send(f, n.addr, e.packetOf(f.set.Area, d))
	}
}

// packetOf tells the packet that is to be sent, but for what all packets of an interface tell.
func (e *Engine) packetOf(area uint32, d sync.Do) packet.Packet {
	p := packet.Packet{Type: d.What, Flags: d.Flags, Seq: d.Seq}
	switch {
	case d.Heads:
		p.Heads = e.Heads(area)
	case d.What == packet.Request:
		p.Keys = d.Keys
	case d.What == packet.Update:
		p.Lsas = e.found(area, d.Keys)
	}
	return p
}

// found tells those that are there; an interface that was moved as it stood may still owe what isn't.
func (e *Engine) found(area uint32, keys []lsa.Key) []lsa.Lsa {
	var all []lsa.Lsa
	for _, k := range keys {
		if l, there := e.Find(area, k); there {
			all = append(all, l)
		}
	}
	return all
}

// send sends a packet from an interface. None is longer than packets may be, so each can be put.
func (e *Engine) send(f *face, to uint32, p packet.Packet) {
	p.Router, p.Area, p.Auth = e.id, f.set.Area, f.set.Auth
	text, _ := packet.Put(p)
	e.sent = append(e.sent, Out{Face: f.name, To: to, Text: text})
}

// flood sends what is there of keys to all neighbors of an area but the one from whom it came.
func (e *Engine) flood(area uint32, keys []lsa.Key, but *neighbor) {
	for _, f := range e.faces {
		if f.set.Area != area {
			continue
		}
		for _, n := range f.known {
			if n != but {
				e.step(f, n, sync.Event{What: sync.Floods, Keys: keys})
			}
		}
	}
}
