package engine

import (
	"slices"

	"waystone/api"
	"waystone/packet"
	"waystone/sync"
)

// Tick lets time go by, and tells what is sent then.
func (e *Engine) Tick() []Out {
	if e == nil {
		return nil
	}
	for _, f := range e.faces {
		e.tickFace(f)
	}
	for _, area := range e.areas() {
		e.flood(area, e.dbs[area].Tick(), nil)
	}
	e.settle()
	for _, area := range e.areas() {
		e.drop(area)
	}
	for _, f := range e.faces {
		e.greet(f)
	}
	return e.takeSent()
}

func (e *Engine) tickFace(f *face) {
	f.wait = max(f.wait-1, 0)
	for _, n := range f.known {
		e.step(f, n, sync.Event{What: sync.Ticks})
	}
	f.known = slices.DeleteFunc(f.known, func(n *neighbor) bool { return n.State == sync.Down })
}

// drop drops what has come to its end, unless somebody may not know so yet.
func (e *Engine) drop(area uint32) {
	neighbors := e.neighborsOf(area)
	if slices.ContainsFunc(neighbors, loads) {
		return
	}
	for _, h := range e.Heads(area) {
		owed := func(n *neighbor) bool { return slices.Contains(n.Owe, h.Key) }
		if h.Age == api.MaxAge && !slices.ContainsFunc(neighbors, owed) {
			e.dbs[area].Drop(h.Key)
		}
	}
}

// loads tells whether a neighbor and we are about to come to have the same.
func loads(n *neighbor) bool {
	return n.State == sync.Exchange || n.State == sync.Loading
}

// neighborsOf tells all neighbors of an area.
func (e *Engine) neighborsOf(area uint32) []*neighbor {
	var all []*neighbor
	for _, f := range e.faces {
		if f.set.Area == area {
			all = append(all, f.known...)
		}
	}
	return all
}

// greet sends a Hello, when its time has come.
func (e *Engine) greet(f *face) {
	f.quiet++
	if f.quiet < f.set.Hello {
		return
	}
	f.quiet = 0
	e.send(f, 0, packet.Packet{Type: packet.Hello, Hello: packet.Greeting{
		Mask:      f.set.Mask,
		Interval:  f.set.Hello,
		Dead:      f.set.Dead,
		Priority:  f.set.Priority,
		Dr:        f.dr,
		Bdr:       f.bdr,
		Neighbors: f.numbers(),
	}})
}
