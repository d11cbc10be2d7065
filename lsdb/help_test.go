package lsdb_test

import (
	"math/rand"
	"reflect"
	"slices"
	"testing"

	"waystone/api"
	"waystone/lsa"
	"waystone/lsdb"
)

func router(id uint32, seq int, links ...lsa.Link) lsa.Lsa {
	return lsa.Lsa{Key: lsa.Key{Type: lsa.Router, Id: id, Adv: id}, Seq: seq, Links: links}
}

func network(id uint32, seq int, routers ...uint32) lsa.Lsa {
	return lsa.Lsa{Key: lsa.Key{Type: lsa.Network, Id: id, Adv: 1}, Seq: seq, Mask: 0xFFFFFF00, Routers: routers}
}

func summary(id uint32, seq, cost int) lsa.Lsa {
	return lsa.Lsa{Key: lsa.Key{Type: lsa.Summary, Id: id, Adv: 1}, Seq: seq, Mask: 0xFFFF0000, Cost: cost}
}

func link(cost int) lsa.Link {
	return lsa.Link{Id: 7, Data: 8, Type: 3, Cost: cost}
}

// aged is l at another age.
func aged(age int, l lsa.Lsa) lsa.Lsa {
	l.Age = age
	return l
}

// filled is a Db with what was put, one behind the other.
func filled(t *testing.T, all ...lsa.Lsa) *lsdb.Db {
	t.Helper()
	d := lsdb.New()
	for _, l := range all {
		wantPut(t, d, l, true, api.OK)
	}
	return d
}

func wantPut(t *testing.T, d *lsdb.Db, l lsa.Lsa, taken bool, e api.Errno) {
	t.Helper()
	if ok, got := d.Put(l); ok != taken || got != e {
		t.Errorf("Put(%v): %v, error %d, want %v, error %d", l, ok, got, taken, e)
	}
}

// wantAll asks whether just these are there, by all calls that tell it.
func wantAll(t *testing.T, d *lsdb.Db, all ...lsa.Lsa) {
	t.Helper()
	if d.Count() != len(all) {
		t.Errorf("Count: %d, want %d", d.Count(), len(all))
	}
	for _, l := range all {
		if got, ok := d.Find(l.Key); !ok || !same(got, l) {
			t.Errorf("Find(%v): %v, %v, want %v", l.Key, got, ok, l)
		}
	}
	if h := d.Heads(); !slices.Equal(h, headsOf(all)) {
		t.Errorf("Heads: %v, want %v", h, headsOf(all))
	}
}

// same tells whether two Lsas are the same in all that they hold, where a list of nothing is as none.
func same(a, b lsa.Lsa) bool {
	return a.Age == b.Age && a.Seq == b.Seq && lsa.Alike(a, b)
}

func headOf(l lsa.Lsa) lsa.Header {
	b, e := lsa.Put(l)
	if e != api.OK {
		panic("an Lsa that can't be")
	}
	h, _ := lsa.Head(b)
	return h
}

// headsOf are the headers of all, by their keys, each number of which is held against the other one by itself.
func headsOf(all []lsa.Lsa) []lsa.Header {
	var heads []lsa.Header
	for _, l := range all {
		heads = append(heads, headOf(l))
	}
	slices.SortFunc(heads, func(a, b lsa.Header) int {
		if isAhead(a.Key, b.Key) {
			return -1
		}
		return 1
	})
	return heads
}

func isAhead(a, b lsa.Key) bool {
	if a.Type != b.Type {
		return a.Type < b.Type
	}
	if a.Adv != b.Adv {
		return a.Adv < b.Adv
	}
	return a.Id < b.Id
}

// wrongs are Lsas that can't be.
func wrongs() []lsa.Lsa {
	return []lsa.Lsa{
		{}, {Key: lsa.Key{Type: 4}}, {Key: lsa.Key{Type: -1}}, aged(-1, router(1, 1)), aged(3601, router(1, 1)),
		router(1, api.FirstSeq-1), router(1, api.LastSeq+1), router(1, 1, lsa.Link{}), router(1, 1, link(65536)),
		router(1, 1, make([]lsa.Link, 41)...), network(1, 1), network(1, 1, make([]uint32, 41)...), summary(1, 1, -1), summary(1, 1, 1<<24),
		{Key: lsa.Key{Type: lsa.Router}, Cost: 1}, {Key: lsa.Key{Type: lsa.Summary}, Routers: []uint32{1}},
	}
}

// list is a Db by other means: a plain list, in the order in which keys came.
type list []lsa.Lsa

func (p *list) find(k lsa.Key) int {
	return slices.IndexFunc(*p, func(l lsa.Lsa) bool { return l.Key == k })
}

func (p *list) put(l lsa.Lsa) (bool, api.Errno) {
	if _, e := lsa.Put(l); e != api.OK {
		return false, api.ErrArg
	}
	at := p.find(l.Key)
	switch {
	case at < 0 && len(*p) == 20:
		return false, api.ErrFull
	case at < 0:
		*p = append(*p, l)
		return true, api.OK
	case lsa.Compare(headOf(l), headOf((*p)[at])) > 0:
		(*p)[at] = l
		return true, api.OK
	}
	return false, api.OK
}

func (p *list) drop(k lsa.Key) bool {
	at := p.find(k)
	if at >= 0 {
		*p = slices.Delete(*p, at, at+1)
	}
	return at >= 0
}

func (p *list) tick() []lsa.Key {
	var ended []lsa.Lsa
	for i, l := range *p {
		if l.Age == 3600 {
			continue
		}
		(*p)[i].Age++
		if l.Age == 3599 {
			ended = append(ended, l)
		}
	}
	var keys []lsa.Key
	for _, h := range headsOf(ended) {
		keys = append(keys, h.Key)
	}
	return keys
}

// anyLsa is one of a few keys, numbers, bodies and ages, so that many meet; some can't be.
func anyLsa(r *rand.Rand, keys int) lsa.Lsa {
	age := []int{0, 0, 1, 899, 900, 901, 902, 1801, 2699, 2700, 3598, 3599, 3600, 3601, -1}[r.Intn(15)]
	id, seq, cost := uint32(1+r.Intn(keys)), r.Intn(3)-1, r.Intn(2)
	switch r.Intn(3) {
	case 0:
		return aged(age, router(id, seq, link(cost)))
	case 1:
		return aged(age, network(id, seq, uint32(cost)))
	}
	return aged(age, summary(id, seq, cost))
}

func equal(a, b any) bool {
	return reflect.DeepEqual(a, b)
}
