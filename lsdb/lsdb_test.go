package lsdb_test

import (
	"math"
	"math/rand"
	"slices"
	"testing"

	"waystone/api"
	"waystone/lsa"
	"waystone/lsdb"
)

// P12.1
func TestLess(t *testing.T) {
	rising := []lsa.Key{
		{Type: math.MinInt, Id: 9, Adv: 9}, {Type: -1}, {}, {Id: 1}, {Id: 0x80000000}, {Id: 0xFFFFFFFF}, {Adv: 1}, {Id: 1, Adv: 1}, {Adv: 0x80000000}, {Adv: 0xFFFFFFFF},
		{Type: 1}, {Type: 1, Id: 2, Adv: 1}, {Type: 1, Id: 1, Adv: 2}, {Type: 2}, {Type: 2, Id: 3, Adv: 3}, {Type: 3}, {Type: math.MaxInt},
	}
	for i, a := range rising {
		for j, b := range rising {
			if lsdb.Less(a, b) != (i < j) {
				t.Errorf("Less(%v, %v): %v", a, b, i >= j)
			}
		}
	}
}

// P12.1
func TestANewDbIsOfNothing(t *testing.T) {
	d := lsdb.New()
	if d == nil || len(d.Tick()) != 0 {
		t.Errorf("%v", d)
	}
	wantAll(t, d)
	if l, ok := d.Find(lsa.Key{}); ok || !equal(l, lsa.Lsa{}) {
		t.Errorf("%v, %v", l, ok)
	}
	if d.Drop(lsa.Key{Type: 1}) || lsdb.New() == d {
		t.Error("dropped, or told again")
	}
}

// P12.1, P1
func TestADbThatNewDidntMake(t *testing.T) {
	var d lsdb.Db
	if d.Count() != 0 || d.Heads() != nil || d.Tick() != nil || d.Drop(lsa.Key{}) || d.Copy().Count() != 0 {
		t.Error("not of nothing")
	}
	wantPut(t, &d, router(1, 1), true, api.OK)
	wantAll(t, &d, router(1, 1))
}

// P12.1, P1
func TestANilDb(t *testing.T) {
	var d *lsdb.Db
	for _, l := range append(wrongs(), router(1, 1)) {
		wantPut(t, d, l, false, api.ErrArg)
		if got, ok := d.Find(l.Key); ok || !equal(got, lsa.Lsa{}) {
			t.Errorf("Find: %v, %v", got, ok)
		}
		if d.Drop(l.Key) {
			t.Error("Drop")
		}
	}
	if d.Tick() != nil || d.Heads() != nil || d.Count() != 0 || d.Copy() != nil {
		t.Error(d.Tick(), d.Heads(), d.Count(), d.Copy())
	}
}

// P12.1
func TestPutFindDrop(t *testing.T) {
	all := []lsa.Lsa{
		router(1, 5), router(2, api.FirstSeq, link(1), link(2)), aged(3600, router(3, api.LastSeq)),
		network(1, 1, 9), network(2, 1, 9, 8, 7), summary(1, 0, 0), aged(1, summary(2, -1, 1<<24-1)),
	}
	d := filled(t, all...)
	wantAll(t, d, all...)
	for _, k := range []lsa.Key{{}, {Type: 1}, {Type: 1, Id: 1}, {Type: 1, Adv: 1}, {Type: 1, Id: 4, Adv: 4}, {Type: 2, Id: 3, Adv: 1}, {Type: -3, Id: 1, Adv: 1}} {
		if l, ok := d.Find(k); ok || !equal(l, lsa.Lsa{}) {
			t.Errorf("Find(%v): %v, %v", k, l, ok)
		}
		if d.Drop(k) {
			t.Errorf("Drop(%v)", k)
		}
	}
	for len(all) > 0 {
		l := all[0]
		all = all[1:]
		if !d.Drop(l.Key) || d.Drop(l.Key) {
			t.Errorf("Drop(%v)", l.Key)
		}
		wantAll(t, d, all...)
	}
	// what was dropped may come again, older than it was
	wantPut(t, d, router(1, 4), true, api.OK)
	wantAll(t, d, router(1, 4))
}

// P12.1, P12.2
func TestPutOfOneThatIsThere(t *testing.T) {
	// the one with the greater sum is told by its bytes
	low, high := summary(1, 5, 1), summary(1, 5, 2)
	if headOf(low).Sum > headOf(high).Sum {
		low, high = high, low
	}
	for what, a := range map[string]struct {
		there, came lsa.Lsa
		taken       bool
	}{
		"the same":                               {router(1, 5), router(1, 5), false},
		"a greater number":                       {router(1, 5), router(1, 6), true},
		"a lesser number":                        {router(1, 5), router(1, 4, link(1)), false},
		"a greater number, above 0":              {router(1, -1), router(1, 0), true},
		"the last number":                        {router(1, api.FirstSeq), router(1, api.LastSeq), true},
		"the first number":                       {router(1, api.LastSeq), router(1, api.FirstSeq), false},
		"a greater number, at the end":           {router(1, 5), aged(3600, router(1, 6)), true},
		"a lesser number, at the end":            {router(1, 5), aged(3600, router(1, 4)), false},
		"a greater number, of one at the end":    {aged(3600, router(1, 5)), router(1, 6), true},
		"a greater sum":                          {low, high, true},
		"a lesser sum":                           {high, low, false},
		"a lesser sum, at the end":               {high, aged(3600, low), false},
		"at the end":                             {aged(3599, router(1, 5)), aged(3600, router(1, 5)), true},
		"of one at the end":                      {aged(3600, router(1, 5)), router(1, 5), false},
		"both at the end":                        {aged(3600, router(1, 5)), aged(3600, router(1, 5)), false},
		"ages that differ by 900":                {aged(901, router(1, 5)), aged(1, router(1, 5)), false},
		"ages that differ by 901":                {aged(902, router(1, 5)), aged(1, router(1, 5)), true},
		"ages that differ by 901, the other way": {aged(1, router(1, 5)), aged(902, router(1, 5)), false},
		"a greater number, far older":            {router(1, 5), aged(3000, router(1, 6)), true},
	} {
		d := filled(t, a.there)
		if ok, e := d.Put(a.came); ok != a.taken || e != api.OK {
			t.Errorf("%s: %v, error %d", what, ok, e)
		}
		if a.taken {
			wantAll(t, d, a.came)
		} else {
			wantAll(t, d, a.there)
		}
	}
}

// P12.1: keys that differ in one number are others.
func TestKeysThatAreNearlyAlike(t *testing.T) {
	k := lsa.Key{Type: lsa.Router, Id: 1, Adv: 2}
	all := []lsa.Lsa{{Key: k}, {Key: lsa.Key{Type: lsa.Router, Id: 2, Adv: 1}}, {Key: lsa.Key{Type: lsa.Router, Id: 1, Adv: 1}}, {Key: lsa.Key{Type: lsa.Summary, Id: 1, Adv: 2}}}
	wantAll(t, filled(t, all...), all...)
}

// P12.1
func TestPutOfWhatCantBe(t *testing.T) {
	d := filled(t, router(1, 5))
	for _, l := range wrongs() {
		wantPut(t, d, l, false, api.ErrArg)
	}
	wantAll(t, d, router(1, 5))
	for id := uint32(2); id <= 20; id++ {
		wantPut(t, d, router(id, 1), true, api.OK)
	}
	for _, l := range wrongs() {
		wantPut(t, d, l, false, api.ErrArg)
	}
}

// P12.1
func TestPutWithoutRoom(t *testing.T) {
	var all []lsa.Lsa
	for id := uint32(1); id <= api.MaxLsas; id++ {
		all = append(all, router(id, 5))
	}
	d := filled(t, all...)
	wantPut(t, d, router(21, 5), false, api.ErrFull)
	wantPut(t, d, aged(3600, summary(1, api.LastSeq, 1)), false, api.ErrFull)
	wantAll(t, d, all...)
	wantPut(t, d, router(7, 5), false, api.OK)
	wantPut(t, d, router(7, 4), false, api.OK)
	all[6] = router(7, 6, link(1))
	wantPut(t, d, all[6], true, api.OK)
	wantAll(t, d, all...)
	d.Drop(all[0].Key)
	all[0] = summary(1, 1, 1)
	wantPut(t, d, all[0], true, api.OK)
	wantPut(t, d, router(1, 5), false, api.ErrFull)
	wantAll(t, d, all...)
}

// P12.1
func TestTick(t *testing.T) {
	at := func(n int) []lsa.Lsa {
		var all []lsa.Lsa
		for i, l := range []lsa.Lsa{summary(1, 1, 1), router(2, 1), router(1, 1, link(1)), network(1, 1, 1), summary(2, 1, 1), router(3, 1)} {
			all = append(all, aged(min(3600, []int{3598, 3599, 3598, 0, 3600, 3598}[i]+n), l))
		}
		return all
	}
	d := filled(t, at(0)...)
	router1, router2, router3, summary1 := router(1, 1).Key, router(2, 1).Key, router(3, 1).Key, summary(1, 1, 1).Key
	for n, want := range [][]lsa.Key{{router2}, {router1, router3, summary1}, nil, nil} {
		if keys := d.Tick(); !slices.Equal(keys, want) {
			t.Errorf("tick %d: %v, want %v", n+1, keys, want)
		}
		wantAll(t, d, at(n+1)...)
	}
}

// P12.1: from the begin to the end.
func TestTickOfALife(t *testing.T) {
	d := filled(t, network(1, 1, 1))
	for n := 1; n <= 3605; n++ {
		keys := d.Tick()
		if l, _ := d.Find(network(1, 1, 1).Key); l.Age != min(n, 3600) || len(keys) != 0 != (n == 3600) {
			t.Fatalf("tick %d: age %d, %v", n, l.Age, keys)
		}
	}
	// one that comes at its end has not come to it by a tick
	d = filled(t, aged(3600, router(1, 1)))
	if keys := d.Tick(); len(keys) != 0 {
		t.Error(keys)
	}
	// one that comes anew comes to its end anew
	wantPut(t, d, aged(3599, router(1, 2)), true, api.OK)
	if keys := d.Tick(); !slices.Equal(keys, []lsa.Key{router(1, 1).Key}) {
		t.Error(keys)
	}
}

// P12.2: alike ones are held against each other by their ages as they are then.
func TestAgesAsTheyAreThen(t *testing.T) {
	for ticks, taken := range map[int]bool{0: false, 1: false, 899: false, 900: false, 901: true, 3599: true, 3600: false} {
		d := filled(t, router(1, 5, link(1)))
		for range ticks {
			d.Tick()
		}
		wantPut(t, d, router(1, 5, link(1)), taken, api.OK)
		old := router(1, 5, link(1))
		wantPut(t, d, aged(3600, old), ticks != 3600, api.OK)
		wantAll(t, d, aged(3600, old))
	}
}

// P12.2: in each order.
func TestTheNewestIsThere(t *testing.T) {
	newest := []lsa.Lsa{aged(3600, router(1, 7)), summary(1, 7, 1), network(1, 3, 1)}
	if headOf(summary(1, 7, 2)).Sum > headOf(newest[1]).Sum {
		newest[1] = summary(1, 7, 2)
	}
	all := append(slices.Clone(newest), router(1, 7), router(1, 6, link(1)), summary(1, 7, 1), summary(1, 7, 2), network(1, 2, 9, 9))
	orders(all, 0, func(all []lsa.Lsa) {
		d := lsdb.New()
		for _, l := range all {
			d.Put(l)
		}
		wantAll(t, d, newest...)
	})
}

// orders hands on all orders of a list from a place on.
func orders(all []lsa.Lsa, from int, hear func(all []lsa.Lsa)) {
	if from == len(all) {
		hear(all)
		return
	}
	for i := from; i < len(all); i++ {
		all[from], all[i] = all[i], all[from]
		orders(all, from+1, hear)
		all[from], all[i] = all[i], all[from]
	}
}

// P12.1, P12.2, P1: any calls, beside those of a plain list.
func TestAnyCalls(t *testing.T) {
	r := rand.New(rand.NewSource(12))
	for range 150 {
		d, p, keys := lsdb.New(), list(nil), 1+r.Intn(10)
		for range 300 {
			l := anyLsa(r, keys)
			switch n := r.Intn(20); {
			case n < 12:
				taken, e := p.put(l)
				wantPut(t, d, l, taken, e)
			case n < 14:
				if want := p.drop(l.Key); d.Drop(l.Key) != want {
					t.Errorf("Drop(%v): %v", l.Key, !want)
				}
			case n < 15:
				d = d.Copy()
			default:
				if got, want := d.Tick(), p.tick(); !slices.Equal(got, want) {
					t.Errorf("Tick: %v, want %v", got, want)
				}
			}
			wantAll(t, d, p...)
		}
		if t.Failed() {
			return
		}
	}
}

// P12.1
func TestCopy(t *testing.T) {
	all := []lsa.Lsa{router(1, 5, link(1)), network(1, 5, 1, 2), aged(3599, summary(1, 5, 1))}
	d := filled(t, all...)
	c := d.Copy()
	wantAll(t, c, all...)
	d.Drop(all[0].Key)
	wantPut(t, d, network(1, 6, 3), true, api.OK)
	wantPut(t, d, summary(2, 1, 1), true, api.OK)
	d.Tick()
	wantAll(t, c, all...)
	one := d.Copy()
	for id := uint32(2); c.Count() < 20; id++ {
		wantPut(t, c, router(id, 1), true, api.OK)
	}
	wantPut(t, c, router(90, 1), false, api.ErrFull)
	wantAll(t, d, aged(1, network(1, 6, 3)), aged(3600, all[2]), aged(1, summary(2, 1, 1)))
	wantAll(t, one, aged(1, network(1, 6, 3)), aged(3600, all[2]), aged(1, summary(2, 1, 1)))
}

// P12.3
func TestNothingIsKeptOrChanged(t *testing.T) {
	links, routers := []lsa.Link{link(1), link(2), link(77)}, []uint32{1, 2, 77}
	one, two := router(1, 5, links[:2]...), network(1, 5, routers[:2]...)
	want := []lsa.Lsa{router(1, 5, link(1), link(2)), network(1, 5, 1, 2)}
	d := filled(t, one, two)
	d.Put(one)
	if !equal(links, []lsa.Link{link(1), link(2), link(77)}) || !equal(routers, []uint32{1, 2, 77}) {
		t.Errorf("what was handed in is changed: %v, %v", links, routers)
	}
	clear(links)
	clear(routers)
	wantAll(t, d, want...)
	c := d.Copy()
	for _, of := range []*lsdb.Db{d, c} {
		for _, l := range want {
			got, _ := of.Find(l.Key)
			clear(got.Links[:cap(got.Links)])
			clear(got.Routers[:cap(got.Routers)])
		}
		heads := of.Heads()
		clear(heads[:cap(heads)])
	}
	wantAll(t, d, want...)
	wantAll(t, c, want...)
}

// P12.3
func TestKeysOfATickAreNewMemory(t *testing.T) {
	d := filled(t, aged(3599, router(1, 1)), aged(3599, router(2, 1)))
	keys := d.Tick()
	clear(keys[:cap(keys)])
	wantAll(t, d, aged(3600, router(1, 1)), aged(3600, router(2, 1)))
}
