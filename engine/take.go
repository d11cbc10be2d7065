package engine

import (
	"slices"

	"waystone/api"
	"waystone/lsa"
	"waystone/packet"
	"waystone/sync"
)

// Take takes a packet that came to an interface, and tells what is sent then.
func (e *Engine) Take(name string, from uint32, b []byte) ([]Out, api.Errno) {
	if e == nil {
		return nil, api.ErrArg
	}
	f := e.face(name)
	if f == nil {
		return nil, api.ErrNone
	}
	p, err := packet.Get(b, f.set.Auth)
	if err != api.OK {
		return nil, err
	}
	if p.Area != f.set.Area || p.Router == e.id || from == f.set.Addr {
		return nil, api.ErrParam
	}
	if p.Type == packet.Hello {
		err = e.hello(f, from, p)
	} else {
		err = e.other(f, from, p)
	}
	if err != api.OK {
		return nil, err
	}
	e.settle()
	return e.takeSent(), api.OK
}

// hello takes a greeting, from a neighbor that is perhaps a new one.
func (e *Engine) hello(f *face, from uint32, p packet.Packet) api.Errno {
	g := p.Hello
	if g.Interval != f.set.Hello || g.Dead != f.set.Dead || !f.set.Two && g.Mask != f.set.Mask {
		return api.ErrParam
	}
	n := f.find(from)
	if n == nil && len(f.known) >= api.MaxNeighbors {
		return api.ErrFull
	}
	if n == nil || n.Id != p.Router {
		n = f.meet(from, sync.Neighbor{Me: e.id, Id: p.Router})
	}
	e.step(f, n, sync.Event{
		What:     sync.Greets,
		Yes:      slices.Contains(g.Neighbors, e.id),
		Priority: g.Priority,
		Dr:       g.Dr,
		Bdr:      g.Bdr,
		Dead:     f.set.Dead,
	})
	return api.OK
}

// other takes a packet that isn't a Hello.
func (e *Engine) other(f *face, from uint32, p packet.Packet) api.Errno {
	n := f.find(from)
	if n == nil || n.Id != p.Router || n.State < sync.ExStart {
		return api.ErrState
	}
	heads := e.Heads(f.set.Area)
	switch p.Type {
	case packet.Database:
		e.step(f, n, sync.Event{What: sync.Database, Flags: p.Flags, Seq: p.Seq, Heads: p.Heads, Own: heads})
	case packet.Request:
		e.step(f, n, sync.Event{What: sync.Asked, Keys: p.Keys, Own: heads})
	case packet.Update:
		e.update(f, n, p.Lsas)
	case packet.Ack:
		e.step(f, n, sync.Event{What: sync.Acked, Keys: acked(p.Heads, heads)})
	}
	return api.OK
}

// acked tells the keys of those heads that are of what is there; another one's age may be another by now.
func acked(heads, own []lsa.Header) []lsa.Key {
	var keys []lsa.Key
	for _, h := range heads {
		if slices.ContainsFunc(own, func(o lsa.Header) bool { return o.Key == h.Key && o.Seq == h.Seq && o.Sum == h.Sum }) {
			keys = append(keys, h.Key)
		}
	}
	return keys
}

// update takes Lsas one by one, and acknowledges them at once.
func (e *Engine) update(f *face, n *neighbor, lsas []lsa.Lsa) {
	var heads []lsa.Header
	for _, l := range lsas {
		if e.hear(f, n, l) {
			heads = append(heads, headOf(l))
		}
	}
	if len(heads) > 0 {
		e.send(f, n.addr, packet.Packet{Type: packet.Ack, Heads: heads})
	}
}

// hear takes an Lsa that came from a neighbor, and tells whether it is acknowledged.
func (e *Engine) hear(f *face, n *neighbor, l lsa.Lsa) bool {
	area, keys := f.set.Area, []lsa.Key{l.Key}
	ours, there := e.Find(area, l.Key)
	if !there && l.Age == api.MaxAge {
		e.step(f, n, sync.Event{What: sync.Taken, Keys: keys})
		return true
	}
	order := 1
	if there {
		order = lsa.Compare(headOf(l), headOf(ours))
	}
	if order < 0 {
		e.step(f, n, sync.Event{What: sync.Floods, Keys: keys})
		return false
	}
	if order > 0 {
		if taken, _ := e.dbs[area].Put(l); !taken {
			return false
		}
		e.flood(area, keys, n)
	}
	e.step(f, n, sync.Event{What: sync.Acked, Keys: keys})
	e.step(f, n, sync.Event{What: sync.Taken, Keys: keys})
	if order > 0 && l.Key.Adv == e.id {
		e.claim(area, l.Key)
	}
	return true
}

// claim tells one of ours anew, of which another one came that is newer, as none but we may tell it.
func (e *Engine) claim(area uint32, k lsa.Key) {
	for _, o := range e.own() {
		if o.Area == area && o.Lsa.Key == k {
			e.tellAnew(o)
		}
	}
}

// headOf tells the header with which an Lsa's bytes begin; each that is here can be put.
func headOf(l lsa.Lsa) lsa.Header {
	b, _ := lsa.Put(l)
	h, _ := lsa.Head(b)
	return h
}
