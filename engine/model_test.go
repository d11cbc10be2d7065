package engine_test

import (
	"fmt"
	"slices"
	"strings"

	"waystone/adv"
	"waystone/api"
	"waystone/conf"
	"waystone/elect"
	"waystone/engine"
	"waystone/lsa"
	"waystone/packet"
	"waystone/sync"
)

// model is a router by other means: plain lists, gone through from the first to the last, sentence by sentence of the document.
type model struct {
	c      conf.Conf
	faces  []modelFace
	told   []modelLsa
	sent   []engine.Out
	failed api.Errno
	ownOf  string // what own was asked of last, and what it told
	owns   []adv.Own
}

type modelFace struct {
	name     string
	set      adv.Setting
	ticks    int // since it began
	over     int // the tick at which the wait is over
	greeted  int // the tick of the last Hello
	dr, bdr  uint32
	neighbor []modelNeighbor
}

type modelNeighbor struct {
	addr uint32
	n    sync.Neighbor
}

// modelLsa is one of an area's Db.
type modelLsa struct {
	area uint32
	l    lsa.Lsa
}

func newModel(c conf.Conf) *model {
	m := &model{}
	m.change(c, engine.Restart{})
	return m
}

func (m *model) out() []engine.Out {
	l := m.sent
	m.sent = nil
	return l
}

func (m *model) change(c conf.Conf, r engine.Restart) []engine.Out {
	m.c = slices.Clone(c)
	var faces []modelFace
	for _, name := range conf.Names(c, api.Interface) {
		set, _ := adv.Settings(c, name)
		f := modelFace{name: name, set: set, over: set.Dead, greeted: -1 << 20}
		for _, old := range m.faces {
			if old.name == name && !r.Whole && !slices.Contains(r.Restarts, name) {
				f, f.set = old, set
				if slices.Contains(r.Resets, name) {
					f.neighbor = nil
				}
			}
		}
		faces = append(faces, f)
	}
	m.faces = faces
	m.told = slices.DeleteFunc(m.told, func(x modelLsa) bool {
		stands := slices.ContainsFunc(faces, func(f modelFace) bool { return f.set.Area == x.area })
		return r.Whole || !stands
	})
	for i := range m.faces {
		for j := range m.faces[i].neighbor {
			m.faces[i].neighbor[j].n.Me = adv.Id(c)
		}
	}
	m.settle()
	return m.out()
}

func (m *model) tick() []engine.Out {
	for i := range m.faces {
		f := &m.faces[i]
		f.ticks++
		for j := range f.neighbor {
			m.event(f, j, sync.Event{What: sync.Ticks})
		}
		f.neighbor = slices.DeleteFunc(f.neighbor, func(x modelNeighbor) bool { return x.n.State == 0 })
	}
	for _, area := range m.areas() {
		var ended []lsa.Key
		for _, i := range m.of(area) {
			x := &m.told[i]
			if x.l.Age < 3600 {
				if x.l.Age++; x.l.Age == 3600 {
					ended = append(ended, x.l.Key)
				}
			}
		}
		m.floodAll(area, ended, "", 0)
	}
	m.settle()
	m.told = slices.DeleteFunc(m.told, m.mayBeDropped)
	for i := range m.faces {
		if f := &m.faces[i]; f.ticks-f.greeted >= f.set.Hello {
			f.greeted = f.ticks
			m.greet(f)
		}
	}
	return m.out()
}

func (m *model) greet(f *modelFace) {
	g := packet.Greeting{Mask: f.set.Mask, Interval: f.set.Hello, Dead: f.set.Dead, Priority: f.set.Priority, Dr: f.dr, Bdr: f.bdr}
	for _, x := range f.neighbor {
		g.Neighbors = append(g.Neighbors, x.n.Id)
	}
	m.send(f, 0, packet.Packet{Type: 1, Hello: g})
}

func (m *model) mayBeDropped(x modelLsa) bool {
	if x.l.Age < 3600 {
		return false
	}
	for _, f := range m.faces {
		for _, y := range f.neighbor {
			if f.set.Area == x.area && (y.n.State == 4 || y.n.State == 5 || slices.Contains(y.n.Owe, x.l.Key)) {
				return false
			}
		}
	}
	return true
}

func (m *model) take(name string, from uint32, b []byte) ([]engine.Out, api.Errno) {
	at := slices.IndexFunc(m.faces, func(f modelFace) bool { return f.name == name })
	if at < 0 {
		return nil, api.ErrNone
	}
	f := &m.faces[at]
	p, err := packet.Get(b, f.set.Auth)
	if err != api.OK {
		return nil, err
	}
	h := p.Hello
	wrong := p.Type == 1 && (h.Interval != f.set.Hello || h.Dead != f.set.Dead || h.Mask != f.set.Mask && !f.set.Two)
	if wrong || p.Area != f.set.Area || p.Router == adv.Id(m.c) || from == f.set.Addr {
		return nil, api.ErrParam
	}
	j := slices.IndexFunc(f.neighbor, func(x modelNeighbor) bool { return x.addr == from })
	if p.Type == 1 {
		return m.hello(f, j, from, p)
	}
	if j < 0 || f.neighbor[j].n.Id != p.Router || f.neighbor[j].n.State < 3 {
		return nil, api.ErrState
	}
	m.other(f, j, p)
	m.settle()
	return m.out(), api.OK
}

func (m *model) hello(f *modelFace, j int, from uint32, p packet.Packet) ([]engine.Out, api.Errno) {
	if j < 0 && len(f.neighbor) == 8 {
		return nil, api.ErrFull
	}
	if j >= 0 && f.neighbor[j].n.Id != p.Router {
		f.neighbor = slices.Delete(f.neighbor, j, j+1)
		j = -1
	}
	if j < 0 {
		f.neighbor = append(f.neighbor, modelNeighbor{from, sync.Neighbor{Me: adv.Id(m.c), Id: p.Router}})
		slices.SortFunc(f.neighbor, func(a, b modelNeighbor) int { return int(a.addr) - int(b.addr) })
		j = slices.IndexFunc(f.neighbor, func(x modelNeighbor) bool { return x.addr == from })
	}
	h := p.Hello
	m.event(f, j, sync.Event{What: sync.Greets, Yes: slices.Contains(h.Neighbors, adv.Id(m.c)), Priority: h.Priority, Dr: h.Dr, Bdr: h.Bdr, Dead: f.set.Dead})
	m.settle()
	return m.out(), api.OK
}

func (m *model) other(f *modelFace, j int, p packet.Packet) {
	own := m.heads(f.set.Area)
	switch p.Type {
	case 2:
		m.event(f, j, sync.Event{What: sync.Database, Flags: p.Flags, Seq: p.Seq, Heads: p.Heads, Own: own})
	case 3:
		m.event(f, j, sync.Event{What: sync.Asked, Keys: p.Keys, Own: own})
	case 5:
		var keys []lsa.Key
		for _, h := range p.Heads {
			for _, o := range own {
				if o.Key == h.Key && o.Seq == h.Seq && o.Sum == h.Sum {
					keys = append(keys, h.Key)
				}
			}
		}
		m.event(f, j, sync.Event{What: sync.Acked, Keys: keys})
	case 4:
		var heads []lsa.Header
		for _, l := range p.Lsas {
			if m.one(f, j, l) {
				heads = append(heads, headsOf([]lsa.Lsa{l})...)
			}
		}
		if len(heads) > 0 {
			m.send(f, f.neighbor[j].addr, packet.Packet{Type: 5, Heads: heads})
		}
	}
}

func (m *model) one(f *modelFace, j int, l lsa.Lsa) bool {
	area, keys := f.set.Area, []lsa.Key{l.Key}
	at := m.find(area, l.Key)
	cmp := 1
	if at >= 0 {
		cmp = lsa.Compare(headsOf([]lsa.Lsa{l})[0], headsOf([]lsa.Lsa{m.told[at].l})[0])
	}
	switch {
	case at < 0 && l.Age == 3600:
		m.event(f, j, sync.Event{What: sync.Taken, Keys: keys})
		return true
	case cmp == -1:
		m.event(f, j, sync.Event{What: sync.Floods, Keys: keys})
		return false
	case cmp == 1 && !m.put(area, l):
		return false
	case cmp == 1:
		m.floodAll(area, keys, f.name, f.neighbor[j].addr)
	}
	m.event(f, j, sync.Event{What: sync.Acked, Keys: keys})
	m.event(f, j, sync.Event{What: sync.Taken, Keys: keys})
	for _, o := range m.own() {
		if cmp == 1 && o.Area == area && o.Lsa.Key == l.Key {
			m.renew(o)
		}
	}
	return true
}

func (m *model) settle() {
	for i := range m.faces {
		f := &m.faces[i]
		over := f.ticks >= f.over
		if !f.set.Two && over {
			all := []elect.Voter{{Id: adv.Id(m.c), Addr: f.set.Addr, Priority: f.set.Priority, Dr: f.dr, Bdr: f.bdr}}
			for _, x := range f.neighbor {
				if x.n.State >= 2 {
					all = append(all, elect.Voter{Id: x.n.Id, Addr: x.addr, Priority: x.n.Priority, Dr: x.n.Dr, Bdr: x.n.Bdr})
				}
			}
			f.dr, f.bdr = elect.Elect(all)
		}
		for j := range f.neighbor {
			both := []uint32{f.set.Addr, f.neighbor[j].addr}
			one := f.dr != 0 && slices.Contains(both, f.dr) || f.bdr != 0 && slices.Contains(both, f.bdr)
			m.event(f, j, sync.Event{What: sync.Adjacent, Yes: f.set.Two || over && one})
		}
	}
	m.tell()
}

func (m *model) tell() {
	own := m.own()
	for _, o := range own {
		at := m.find(o.Area, o.Lsa.Key)
		if at < 0 || !lsa.Alike(m.told[at].l, o.Lsa) || m.told[at].l.Age >= 1800 {
			m.renew(o)
		}
	}
	for _, area := range m.areas() {
		for _, i := range m.of(area) {
			x := &m.told[i]
			is := slices.ContainsFunc(own, func(o adv.Own) bool { return o.Area == area && o.Lsa.Key == x.l.Key })
			if x.l.Key.Adv == adv.Id(m.c) && !is && x.l.Age < 3600 {
				x.l.Age = 3600
				m.floodAll(area, []lsa.Key{x.l.Key}, "", 0)
			}
		}
	}
}

func (m *model) own() []adv.Own {
	stands := m.stands()
	if of := fmt.Sprint(m.c, stands); of != m.ownOf {
		l, e := adv.All(m.c, stands)
		if e != api.OK {
			m.failed = e
		}
		m.ownOf, m.owns = of, l
	}
	return m.owns
}

func (m *model) stands() []adv.Face {
	var faces []adv.Face
	for _, f := range m.faces {
		s := adv.Face{Name: f.name, Dr: f.dr}
		for _, x := range f.neighbor {
			if x.n.State == 6 {
				s.Full = append(s.Full, adv.Peer{Id: x.n.Id, Addr: x.addr})
			}
		}
		faces = append(faces, s)
	}
	return faces
}

// renew tells one of ours by the number behind the one that is there; behind the last one it ends.
func (m *model) renew(o adv.Own) {
	l := o.Lsa
	if at := m.find(o.Area, l.Key); at >= 0 {
		there := m.told[at].l
		l.Seq = there.Seq + 1
		if there.Seq == api.LastSeq {
			l = aged(3600, there)
			if there.Age == 3600 {
				return
			}
		}
	}
	if m.put(o.Area, l) {
		m.floodAll(o.Area, []lsa.Key{l.Key}, "", 0)
	}
}

func (m *model) put(area uint32, l lsa.Lsa) bool {
	if at := m.find(area, l.Key); at >= 0 {
		m.told[at].l = l
		return true
	}
	if len(m.of(area)) == 20 {
		return false
	}
	m.told = append(m.told, modelLsa{area, l})
	return true
}

func (m *model) find(area uint32, k lsa.Key) int {
	return slices.IndexFunc(m.told, func(x modelLsa) bool { return x.area == area && x.l.Key == k })
}

// of are the places of an area's Lsas, in order.
func (m *model) of(area uint32) []int {
	var l []int
	for i, x := range m.told {
		if x.area == area {
			l = append(l, i)
		}
	}
	slices.SortFunc(l, func(i, j int) int {
		a, b := m.told[i].l.Key, m.told[j].l.Key
		if a.Type != b.Type {
			return a.Type - b.Type
		}
		if a.Adv != b.Adv {
			return int(a.Adv) - int(b.Adv)
		}
		return int(a.Id) - int(b.Id)
	})
	return l
}

func (m *model) heads(area uint32) []lsa.Header {
	var l []lsa.Lsa
	for _, i := range m.of(area) {
		l = append(l, m.told[i].l)
	}
	return headsOf(l)
}

func (m *model) areas() []uint32 {
	var l []uint32
	for _, f := range m.faces {
		l = append(l, f.set.Area)
	}
	slices.Sort(l)
	return slices.Compact(l)
}

func (m *model) floodAll(area uint32, keys []lsa.Key, name string, from uint32) {
	for i := range m.faces {
		f := &m.faces[i]
		for j := range f.neighbor {
			if f.set.Area == area && (f.name != name || f.neighbor[j].addr != from) {
				m.event(f, j, sync.Event{What: sync.Floods, Keys: keys})
			}
		}
	}
}

func (m *model) event(f *modelFace, j int, e sync.Event) {
	e.Again = f.set.Again
	n, dos := sync.Step(f.neighbor[j].n, e)
	f.neighbor[j].n = n
	for _, d := range dos {
		p := packet.Packet{Type: d.What, Flags: d.Flags, Seq: d.Seq}
		if d.Heads {
			p.Heads = m.heads(f.set.Area)
		}
		if d.What == packet.Request {
			p.Keys = d.Keys
		}
		if d.What == packet.Update {
			for _, k := range d.Keys {
				if at := m.find(f.set.Area, k); at >= 0 {
					p.Lsas = append(p.Lsas, m.told[at].l)
				}
			}
		}
		m.send(f, f.neighbor[j].addr, p)
	}
}

func (m *model) send(f *modelFace, to uint32, p packet.Packet) {
	p.Router, p.Area, p.Auth = adv.Id(m.c), f.set.Area, strings.Clone(f.set.Auth)
	b, e := packet.Put(p)
	if e != api.OK {
		m.failed = e
	}
	m.sent = append(m.sent, engine.Out{Face: f.name, To: to, Text: b})
}
