package sync_test

import (
	"math/rand"
	"slices"
	"testing"

	"waystone/api"
	"waystone/lsa"
	"waystone/lsdb"
	"waystone/packet"
	"waystone/sync"
)

// sentPacket is a packet on its way.
type sentPacket struct {
	kind  int
	yes   bool
	flags int
	seq   uint32
	heads []lsa.Header
	keys  []lsa.Key
	lsas  []lsa.Lsa
}

// side is one of two routers, with as much of one as they need to come to have the same.
type side struct {
	n     sync.Neighbor
	db    *lsdb.Db
	sent  []sentPacket // not yet there
	asked []lsa.Key
}

func (s *side) step(e sync.Event) {
	e.Own, e.Again, e.Dead = s.db.Heads(), 3, 1000
	n, out := sync.Step(s.n, e)
	s.n = n
	for _, d := range out {
		s.send(d)
	}
}

func (s *side) send(d sync.Do) {
	p := sentPacket{kind: d.What, flags: d.Flags, seq: d.Seq, keys: d.Keys}
	if d.Heads {
		p.heads = s.db.Heads()
	}
	if d.What == packet.Request {
		s.asked = append(s.asked, d.Keys...)
	}
	if d.What == packet.Update {
		for _, k := range d.Keys {
			l, _ := s.db.Find(k)
			p.lsas = append(p.lsas, l)
		}
	}
	s.sent = append(s.sent, p)
}

func (s *side) greet() {
	s.sent = append(s.sent, sentPacket{kind: packet.Hello, yes: s.n.State >= sync.Heard})
}

// hear takes a packet that came, as a router does.
func (s *side) hear(p sentPacket) {
	switch {
	case p.kind == packet.Hello:
		s.step(sync.Event{What: sync.Greets, Yes: p.yes})
	case s.n.State < sync.ExStart:
		// a router knows nothing of it yet
	case p.kind == packet.Database:
		s.step(sync.Event{What: sync.Database, Flags: p.flags, Seq: p.seq, Heads: p.heads})
	case p.kind == packet.Request:
		s.step(sync.Event{What: sync.Asked, Keys: p.keys})
	case p.kind == packet.Update:
		s.update(p.lsas)
	case p.kind == packet.Ack:
		s.acked(p.heads)
	}
}

func (s *side) update(lsas []lsa.Lsa) {
	var heads []lsa.Header
	for _, l := range lsas {
		k := l.Key
		if ours, there := s.db.Find(k); there && lsa.Compare(headOf(ours), headOf(l)) > 0 {
			s.step(sync.Event{What: sync.Floods, Keys: []lsa.Key{k}})
			continue
		}
		s.db.Put(l)
		s.step(sync.Event{What: sync.Acked, Keys: []lsa.Key{k}})
		s.step(sync.Event{What: sync.Taken, Keys: []lsa.Key{k}})
		heads = append(heads, headOf(l))
	}
	if len(heads) > 0 {
		s.sent = append(s.sent, sentPacket{kind: packet.Ack, heads: heads})
	}
}

func (s *side) acked(heads []lsa.Header) {
	var keys []lsa.Key
	for _, h := range heads {
		if l, there := s.db.Find(h.Key); there && l.Seq == h.Seq && headOf(l).Sum == h.Sum {
			keys = append(keys, h.Key)
		}
	}
	s.step(sync.Event{What: sync.Acked, Keys: keys})
}

// tellAnew lets it tell of itself anew.
func (s *side) tellAnew(l lsa.Lsa) {
	s.db.Put(l)
	s.step(sync.Event{What: sync.Floods, Keys: []lsa.Key{l.Key}})
}

func headOf(l lsa.Lsa) lsa.Header {
	b, _ := lsa.Put(l)
	h, _ := lsa.Head(b)
	return h
}

// of is an Lsa of that number.
func of(id uint32, seq int) lsa.Lsa {
	return lsa.Lsa{Key: key(id), Seq: seq, Links: []lsa.Link{{Id: id, Type: 3, Cost: seq}}}
}

// newSide has some of eight Lsas, in numbers that the other one may have newer.
func newSide(r *rand.Rand, me, id, seq uint32) *side {
	s := &side{n: sync.Neighbor{Me: me, Id: id, Seq: seq}, db: lsdb.New()}
	for id := uint32(1); id <= 8; id++ {
		if r.Intn(3) > 0 {
			s.db.Put(of(id, r.Intn(3)))
		}
	}
	return s
}

// newerOf are the keys of which the other one has a newer one, or one that isn't here.
func newerOf(s, other *side) []lsa.Key {
	var l []lsa.Key
	for _, h := range other.db.Heads() {
		ours, there := s.db.Find(h.Key)
		if !there || lsa.Compare(h, headOf(ours)) > 0 {
			l = append(l, h.Key)
		}
	}
	return l
}

func (s *side) isDone() bool {
	return s.n.State == sync.Full && len(s.n.Want) == 0 && len(s.n.Owe) == 0
}

// run lets both do what they do in any order, a step at a time, till both are done.
type run struct {
	r        *rand.Rand
	both     [2]*side
	takes    func(n int) int // which of the packets that are on their way one way comes next
	tellings int             // how often one tells of itself anew
}

func (u *run) toEnd(t *testing.T) {
	t.Helper()
	for range 3000 {
		a, b := u.both[0], u.both[1]
		if len(a.sent)+len(b.sent) == 0 {
			if a.isDone() && b.isDone() && u.tellings == 0 {
				return
			}
			u.tick()
		}
		u.act(u.r.Intn(2))
	}
	t.Fatalf("they don't come to an end: %v, %v", u.both[0].n, u.both[1].n)
}

// tick lets time go by when all that was sent is there.
func (u *run) tick() {
	for _, s := range u.both {
		s.step(sync.Event{What: sync.Ticks})
		s.greet()
	}
}

func (u *run) act(i int) {
	s, other := u.both[i], u.both[1-i]
	switch n := u.r.Intn(8); {
	case n == 0 && s.n.State == sync.TwoWay:
		s.step(sync.Event{What: sync.Adjacent, Yes: true})
	case n == 1 && u.tellings > 0:
		u.tellings--
		s.tellAnew(of(s.n.Me, 10+20*int(s.n.Me)-u.tellings))
	case n > 1 && len(other.sent) > 0:
		at := u.takes(len(other.sent))
		p := other.sent[at]
		other.sent = slices.Delete(other.sent, at, at+1)
		s.hear(p)
	}
}

func wantTheSame(t *testing.T, a, b *side) {
	t.Helper()
	if !slices.EqualFunc(a.db.Heads(), b.db.Heads(), func(a, b lsa.Header) bool { return a == b }) {
		t.Fatalf("they have not the same: %v, %v", a.db.Heads(), b.db.Heads())
	}
}

func wantAsked(t *testing.T, s *side, want []lsa.Key) {
	t.Helper()
	asked := slices.Clone(s.asked)
	slices.SortFunc(asked, func(a, b lsa.Key) int { return int(a.Id) - int(b.Id) })
	if asked = slices.Compact(asked); !slices.Equal(asked, want) {
		t.Fatalf("asked for %v, want %v", asked, want)
	}
}

func inTurn(int) int { return 0 }

// P14.2, P4: two that hear each other come to Full, have the same, and have asked for just what the other one had newer; also where packets that are sent the same way come in any order.
func TestBothComeToFull(t *testing.T) {
	r := rand.New(rand.NewSource(142))
	for n := range 4000 {
		ids := r.Perm(5)
		a := newSide(r, uint32(ids[0]), uint32(ids[1]), r.Uint32())
		b := newSide(r, uint32(ids[1]), uint32(ids[0]), []uint32{0xFFFFFFFF, 0xFFFFFFFE, a.n.Seq, 0, r.Uint32()}[r.Intn(5)])
		newerOfB, newerOfA := newerOf(a, b), newerOf(b, a)
		u := run{r: r, both: [2]*side{a, b}, takes: inTurn}
		if n%2 == 0 {
			u.takes = r.Intn
		}
		u.toEnd(t)
		wantTheSame(t, a, b)
		wantAsked(t, a, newerOfB)
		wantAsked(t, b, newerOfA)
	}
}

// P4: what one tells anew meanwhile is the other one's too.
func TestBothHaveTheSameWhatsTold(t *testing.T) {
	r := rand.New(rand.NewSource(144))
	for range 2000 {
		a, b := newSide(r, 1, 2, r.Uint32()), newSide(r, 2, 1, r.Uint32())
		u := run{r: r, both: [2]*side{a, b}, takes: []func(n int) int{inTurn, r.Intn}[r.Intn(2)], tellings: 1 + r.Intn(5)}
		u.toEnd(t)
		wantTheSame(t, a, b)
	}
}

// P14.2: packet by packet, with nothing to ask for on one side.
func TestAnExchangeOfTwo(t *testing.T) {
	slave := &side{n: sync.Neighbor{State: sync.TwoWay, Me: 1, Id: 2, Seq: 7}, db: lsdb.New()}
	master := &side{n: sync.Neighbor{State: sync.TwoWay, Me: 2, Id: 1, Seq: 40}, db: lsdb.New()}
	if ok, e := slave.db.Put(of(1, 1)); !ok || e != api.OK {
		t.Fatal(ok, e)
	}
	for _, s := range []*side{slave, master} {
		s.step(sync.Event{What: sync.Adjacent, Yes: true})
	}
	var kinds []int
	for len(slave.sent)+len(master.sent) > 0 {
		for _, way := range [][2]*side{{slave, master}, {master, slave}} {
			if from, to := way[0], way[1]; len(from.sent) > 0 {
				p := from.sent[0]
				from.sent = from.sent[1:]
				kinds = append(kinds, p.kind*10+p.flags)
				to.hear(p)
			}
		}
	}
	want := []int{27, 27, 20, 21, 20, 30, 40, 50}
	if !slices.Equal(kinds, want) || slave.n.State != sync.Full || master.n.State != sync.Full || slave.n.Seq != 42 || master.n.Seq != 42 {
		t.Errorf("%v, %v, %v", kinds, slave.n, master.n)
	}
	wantTheSame(t, slave, master)
	wantAsked(t, slave, nil)
	wantAsked(t, master, keys(1))
}
