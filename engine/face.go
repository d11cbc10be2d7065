package engine

import (
	"slices"

	"waystone/adv"
	"waystone/elect"
	"waystone/sync"
)

// face is an interface, as it stands.
type face struct {
	name    string
	set     adv.Setting
	wait    int // in how many ticks the first election is
	quiet   int // how many ticks ago it sent its last Hello
	dr, bdr uint32
	known   []*neighbor // rising by address
}

// neighbor is one of an interface's network.
type neighbor struct {
	addr uint32
	sync.Neighbor
}

// longAgo is a last Hello behind which the next one is due, whatever is set.
const longAgo = 65535

// begin tells an interface that knows nobody yet.
func begin(name string, set adv.Setting) *face {
	return &face{name: name, set: set, wait: set.Dead, quiet: longAgo}
}

// find tells the neighbor of that address, or nil.
func (f *face) find(addr uint32) *neighbor {
	for _, n := range f.known {
		if n.addr == addr {
			return n
		}
	}
	return nil
}

// meet tells a new neighbor, in the place of the one of that address, if there was one.
func (f *face) meet(addr uint32, n sync.Neighbor) *neighbor {
	met := &neighbor{addr: addr, Neighbor: n}
	at := 0
	for at < len(f.known) && f.known[at].addr < addr {
		at++
	}
	behind := at
	if behind < len(f.known) && f.known[behind].addr == addr {
		behind++
	}
	f.known = slices.Replace(f.known, at, behind, met)
	return met
}

// full tells who is Full.
func (f *face) full() []adv.Peer {
	var peers []adv.Peer
	for _, n := range f.known {
		if n.State == sync.Full {
			peers = append(peers, adv.Peer{Id: n.Id, Addr: n.addr})
		}
	}
	return peers
}

// numbers tells all neighbors' numbers.
func (f *face) numbers() []uint32 {
	var all []uint32
	for _, n := range f.known {
		all = append(all, n.Id)
	}
	return all
}

// elects tells whether there are elections on the interface's network by now.
func (f *face) elects() bool {
	return !f.set.Two && f.wait == 0
}

// elect finds who speaks for the interface's network, and who is the deputy.
func (f *face) elect(id uint32) {
	voters := []elect.Voter{{Id: id, Addr: f.set.Addr, Priority: f.set.Priority, Dr: f.dr, Bdr: f.bdr}}
	for _, n := range f.known {
		if n.State >= sync.TwoWay {
			voters = append(voters, elect.Voter{Id: n.Id, Addr: n.addr, Priority: n.Priority, Dr: n.Dr, Bdr: n.Bdr})
		}
	}
	f.dr, f.bdr = elect.Elect(voters)
}

// adjacent tells whether a neighbor and we are to have the same.
func (f *face) adjacent(n *neighbor) bool {
	return f.set.Two || f.elects() && (f.leads(f.set.Addr) || f.leads(n.addr))
}

// leads tells whether an address is the speaker's or the deputy's; 0 is nobody's.
func (f *face) leads(addr uint32) bool {
	return addr != 0 && (addr == f.dr || addr == f.bdr)
}
