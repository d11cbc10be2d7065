package sync_test

import (
	"math"
	"math/rand"
	"slices"
	"testing"

	"waystone/lsa"
	"waystone/packet"
	"waystone/sync"
)

// Numbers of ours, below, alike and above the neighbor's.
const (
	below = 4
	equal = 5
	above = 6
)

// P14.1
func TestGreets(t *testing.T) {
	e := sync.Event{What: sync.Greets, Priority: 9, Dr: 21, Bdr: 22, Dead: 50, Again: 3, Flags: 7, Seq: 1, Heads: []lsa.Header{head(9, 9)}, Keys: keys(1, 3)}
	heard := func(n sync.Neighbor, state int) sync.Neighbor {
		n.State, n.Left, n.Priority, n.Dr, n.Bdr = state, 50, 9, 21, 22
		return n
	}
	for _, me := range []uint32{below, equal, above} {
		for state := range 7 {
			n := neighbor(state, me)
			e.Yes = true
			wantStep(t, "yes", n, e, heard(n, max(state, sync.TwoWay)), nil)
			e.Yes = false
			want := heard(n, sync.Heard)
			if state > sync.Heard {
				want = fallen(want, sync.Heard)
			}
			wantStep(t, "no", n, e, want, nil)
		}
	}
	// the first of all
	n, sent := sync.Step(sync.Neighbor{}, sync.Event{What: sync.Greets, Yes: true})
	if !same(n, sync.Neighbor{State: sync.TwoWay}) || len(sent) != 0 {
		t.Errorf("%v, %v", n, sent)
	}
	e.Dead, e.Yes = -1<<62, true
	n, _ = sync.Step(neighbor(sync.Full, below), e)
	if n.Left != -1<<62 || n.State != sync.Full {
		t.Errorf("%v", n)
	}
}

// P14.1: in how many ticks it is gone.
func TestTicksTillItIsGone(t *testing.T) {
	e := sync.Event{What: sync.Ticks, Again: 9}
	for state := range 7 {
		for left, gone := range map[int]bool{-1 << 62: true, -1: true, 0: true, 1: true, 2: false, 3: false, math.MaxInt: false} {
			n := with(neighbor(state, above), func(n *sync.Neighbor) { n.Left = left })
			want := with(n, func(n *sync.Neighbor) { n.Left-- })
			switch {
			case state == sync.Down:
				want = n
			case gone:
				want = fallen(want, sync.Down)
			case state >= sync.ExStart:
				want.Wait--
			}
			wantStep(t, "left", n, e, want, nil)
		}
	}
	// what is gone sends nothing again
	last := with(neighbor(sync.Full, above), func(n *sync.Neighbor) { n.Left, n.Wait = 1, 1 })
	wantStep(t, "both at once", last, e, fallen(with(last, func(n *sync.Neighbor) { n.Left = 0 }), sync.Down), nil)
}

// P14.1: what is sent again, and when.
func TestTicksSendAgain(t *testing.T) {
	e := sync.Event{What: sync.Ticks, Again: 9, Yes: true, Flags: 1, Seq: 5, Own: []lsa.Header{head(1, 1)}, Heads: []lsa.Header{head(2, 2)}, Keys: keys(8)}
	owed := update(3, 4)
	for _, a := range []struct {
		state int
		me    uint32
		sent  []sync.Do
	}{
		{sync.ExStart, above, dos(database(7, 100, false))}, {sync.ExStart, below, dos(database(7, 100, false))}, {sync.ExStart, equal, dos(database(7, 100, false))},
		{sync.Exchange, above, dos(database(1, 100, true), owed)}, {sync.Exchange, below, dos(owed)}, {sync.Exchange, equal, dos(owed)},
		{sync.Loading, above, dos(request(1, 2), owed)}, {sync.Loading, below, dos(request(1, 2), owed)},
		{sync.Full, above, dos(owed)}, {sync.Full, below, dos(owed)},
	} {
		for wait, again := range map[int]bool{-1 << 62: true, -1: true, 0: true, 1: true, 2: false, 3: false, math.MaxInt: false} {
			n := with(neighbor(a.state, a.me), func(n *sync.Neighbor) { n.Wait = wait })
			want := with(n, func(n *sync.Neighbor) { n.Left, n.Wait = n.Left-1, n.Wait-1 })
			sent := a.sent
			if again {
				want.Wait = 9
			} else {
				sent = nil
			}
			wantStep(t, "wait", n, e, want, sent)
		}
		// nothing is owed
		n := with(neighbor(a.state, a.me), func(n *sync.Neighbor) { n.Wait, n.Owe = 1, nil })
		want := with(n, func(n *sync.Neighbor) { n.Left, n.Wait = n.Left-1, 9 })
		wantStep(t, "nothing owed", n, e, want, slices.DeleteFunc(slices.Clone(a.sent), func(d sync.Do) bool { return d.What == packet.Update }))
	}
	for state := range sync.ExStart {
		n := with(neighbor(state, above), func(n *sync.Neighbor) { n.Wait = 1 })
		if got, sent := sync.Step(n, e); got.Wait != 1 || len(sent) != 0 {
			t.Errorf("in state %d: %v, %v", state, got, sent)
		}
	}
	e.Again = -1 << 62
	n, _ := sync.Step(with(neighbor(sync.Full, above), func(n *sync.Neighbor) { n.Wait = 0 }), e)
	if n.Wait != -1<<62 {
		t.Errorf("%v", n)
	}
}

// P14.1
func TestAdjacent(t *testing.T) {
	for state := range 7 {
		n := neighbor(state, below)
		yes, no := sync.Event{What: sync.Adjacent, Yes: true, Again: 9, Seq: 5}, sync.Event{What: sync.Adjacent, Again: 9, Seq: 5}
		if state == sync.TwoWay {
			wantAnew(t, "yes", n, yes)
		} else {
			wantNothing(t, "yes", n, yes)
		}
		if state > sync.TwoWay {
			wantStep(t, "no", n, no, fallen(n, sync.TwoWay), nil)
		} else {
			wantNothing(t, "no", n, no)
		}
	}
	// the number goes round
	n := with(neighbor(sync.TwoWay, above), func(n *sync.Neighbor) { n.Seq = math.MaxUint32 })
	got, sent := sync.Step(n, sync.Event{What: sync.Adjacent, Yes: true})
	if got.Seq != 0 || got.Wait != 0 || !alike(sent, dos(database(7, 0, false))) {
		t.Errorf("%v, %v", got, sent)
	}
}

// P14.1
func TestDatabaseBelowExStart(t *testing.T) {
	for state := range sync.ExStart {
		for _, flags := range []int{0, 1, 7} {
			for seq := uint32(99); seq < 103; seq++ {
				wantNothing(t, "below", neighbor(state, below), sync.Event{What: sync.Database, Flags: flags, Seq: seq, Again: 9})
				wantNothing(t, "above", neighbor(state, above), sync.Event{What: sync.Database, Flags: flags, Seq: seq, Again: 9})
			}
		}
	}
}

// P14.1: who leads is the greater number.
func TestDatabaseInExStart(t *testing.T) {
	e := sync.Event{What: sync.Database, Again: 9, Own: []lsa.Header{head(7, 1)}}
	for flags := -8; flags < 20; flags++ {
		for seq := uint32(98); seq < 103; seq++ {
			for _, heads := range [][]lsa.Header{nil, {}, {head(8, 1)}} {
				e.Flags, e.Seq, e.Heads = flags, seq, heads
				n := neighbor(sync.ExStart, below)
				if flags == 7 && len(heads) == 0 {
					want := with(n, func(n *sync.Neighbor) { n.State, n.Seq = sync.Exchange, seq })
					wantStep(t, "it leads", n, e, want, dos(database(0, seq, true)))
				} else {
					wantNothing(t, "it should lead", n, e)
				}
				n = neighbor(sync.ExStart, above)
				if flags&packet.Init == 0 && flags&packet.Master == 0 && seq == 100 {
					want := with(n, func(n *sync.Neighbor) { n.State, n.Seq = sync.Exchange, 101 })
					if len(heads) > 0 {
						want.Want = keys(1, 2, 8)
					}
					wantStep(t, "we lead", n, e, want, dos(database(1, 101, true)))
				} else {
					wantNothing(t, "we should lead", n, e)
				}
				wantNothing(t, "nobody leads", neighbor(sync.ExStart, equal), e)
			}
		}
	}
	n := with(neighbor(sync.ExStart, above), func(n *sync.Neighbor) { n.Seq = math.MaxUint32 })
	if got, sent := sync.Step(n, sync.Event{What: sync.Database, Seq: math.MaxUint32}); got.Seq != 0 || !alike(sent, dos(database(1, 0, true))) {
		t.Errorf("%v, %v", got, sent)
	}
}

// P14.1
func TestDatabaseInExchange(t *testing.T) {
	e := sync.Event{What: sync.Database, Again: 9, Own: []lsa.Header{head(7, 1)}, Heads: []lsa.Header{head(8, 1)}}
	for flags := -8; flags < 20; flags++ {
		for seq := uint32(98); seq < 103; seq++ {
			e.Flags, e.Seq = flags, seq
			n := neighbor(sync.Exchange, below)
			switch {
			case flags == 7 && seq == 100:
				wantStep(t, "again", n, e, n, dos(database(0, 100, true)))
			case flags == 1 && seq == 101:
				want := with(n, func(n *sync.Neighbor) { n.State, n.Seq, n.Want = sync.Loading, 101, keys(1, 2, 8) })
				wantStep(t, "it leads", n, e, want, dos(database(0, 101, false), request(1, 2, 8)))
			default:
				wantAnew(t, "it leads", n, e)
			}
			for _, me := range []uint32{above, equal} {
				n := neighbor(sync.Exchange, me)
				if flags == 0 && seq == 100 {
					want := with(n, func(n *sync.Neighbor) { n.State = sync.Loading })
					wantStep(t, "we lead", n, e, want, dos(request(1, 2)))
				} else {
					wantAnew(t, "we lead", n, e)
				}
			}
		}
	}
}

// P14.1: the exchange ends without a wish.
func TestDatabaseEndsTheExchange(t *testing.T) {
	full := func(n *sync.Neighbor) { n.State = sync.Full }
	n := with(neighbor(sync.Exchange, above), func(n *sync.Neighbor) { n.Want = nil })
	wantStep(t, "we lead", n, sync.Event{What: sync.Database, Seq: 100, Heads: []lsa.Header{head(8, 1)}}, with(n, full), nil)
	n = with(neighbor(sync.Exchange, below), func(n *sync.Neighbor) { n.Want, n.Seq = []lsa.Key{}, math.MaxUint32 })
	want := with(n, func(n *sync.Neighbor) { n.State, n.Seq = sync.Full, 0 })
	wantStep(t, "it leads", n, sync.Event{What: sync.Database, Flags: 1}, want, dos(database(0, 0, false)))
	own := []lsa.Header{head(8, 1)}
	wantStep(t, "nothing newer", n, sync.Event{What: sync.Database, Flags: 1, Heads: own, Own: own}, want, dos(database(0, 0, false)))
}

// P14.1
func TestDatabaseBehindTheExchange(t *testing.T) {
	e := sync.Event{What: sync.Database, Again: 9, Heads: []lsa.Header{head(8, 1)}}
	for _, state := range []int{sync.Loading, sync.Full} {
		for flags := -8; flags < 20; flags++ {
			for seq := uint32(98); seq < 103; seq++ {
				e.Flags, e.Seq = flags, seq
				n := neighbor(state, below)
				if flags == 1 && seq == 100 {
					wantStep(t, "it leads", n, e, n, dos(database(0, 100, false)))
				} else {
					wantAnew(t, "it leads", n, e)
				}
				for _, me := range []uint32{above, equal} {
					n := neighbor(state, me)
					if flags == 0 && seq == 100 {
						wantNothing(t, "we lead", n, e)
					} else {
						wantAnew(t, "we lead", n, e)
					}
				}
			}
		}
	}
}

// P14.1: which heads are taken.
func TestHeadsThatAreTaken(t *testing.T) {
	aged := func(h lsa.Header, age int) lsa.Header { h.Age = age; return h }
	summed := func(h lsa.Header, sum uint16) lsa.Header { h.Sum = sum; return h }
	one := head(1, 5)
	for what, a := range map[string]struct {
		want       []lsa.Key
		heads, own []lsa.Header
		then       []lsa.Key
	}{
		"nothing":                     {nil, nil, nil, nil},
		"one that we have not":        {nil, []lsa.Header{one}, nil, keys(1)},
		"one that we have":            {nil, []lsa.Header{one}, []lsa.Header{one}, nil},
		"one that is newer":           {nil, []lsa.Header{head(1, 6)}, []lsa.Header{one}, keys(1)},
		"one that is older":           {nil, []lsa.Header{head(1, 4)}, []lsa.Header{one}, nil},
		"a greater sum":               {nil, []lsa.Header{summed(one, 1)}, []lsa.Header{one}, keys(1)},
		"a lesser sum":                {nil, []lsa.Header{one}, []lsa.Header{summed(one, 1)}, nil},
		"at its end":                  {nil, []lsa.Header{aged(one, 3600)}, []lsa.Header{one}, keys(1)},
		"at our end":                  {nil, []lsa.Header{one}, []lsa.Header{aged(one, 3600)}, nil},
		"younger by 901":              {nil, []lsa.Header{one}, []lsa.Header{aged(one, 901)}, keys(1)},
		"younger by 900":              {nil, []lsa.Header{one}, []lsa.Header{aged(one, 900)}, nil},
		"in order":                    {nil, []lsa.Header{head(3, 1), head(1, 1), head(2, 1)}, []lsa.Header{head(1, 1)}, keys(3, 2)},
		"one that is asked for":       {keys(9, 1), []lsa.Header{head(2, 1), one}, nil, keys(9, 1, 2)},
		"asked for, and older":        {keys(1), []lsa.Header{head(1, 4)}, []lsa.Header{one}, keys(1)},
		"twice":                       {nil, []lsa.Header{one, head(1, 6), head(2, 1), one}, nil, keys(1, 2)},
		"the second one newer":        {nil, []lsa.Header{one, head(1, 6)}, []lsa.Header{one}, keys(1)},
		"ours twice, the first older": {nil, []lsa.Header{one}, []lsa.Header{head(1, 4), head(1, 6)}, keys(1)},
		"ours twice, the first newer": {nil, []lsa.Header{one}, []lsa.Header{head(1, 6), head(1, 4)}, nil},
		"a key that is nearly ours": {nil, []lsa.Header{{Key: lsa.Key{Type: 2, Id: 1, Adv: 1}}, {Key: lsa.Key{Type: 1, Id: 2, Adv: 1}}, {Key: lsa.Key{Type: 1, Id: 1, Adv: 2}}}, []lsa.Header{one},
			[]lsa.Key{{Type: 2, Id: 1, Adv: 1}, {Type: 1, Id: 2, Adv: 1}, {Type: 1, Id: 1, Adv: 2}}},
	} {
		n := with(neighbor(sync.ExStart, above), func(n *sync.Neighbor) { n.Want = a.want })
		got, _ := sync.Step(n, sync.Event{What: sync.Database, Seq: 100, Heads: a.heads, Own: a.own})
		if !slices.Equal(got.Want, a.then) || got.State != sync.Exchange {
			t.Errorf("%s: we lead: %v, want %v", what, got, a.then)
		}
		n = with(neighbor(sync.Exchange, below), func(n *sync.Neighbor) { n.Want = a.want })
		got, _ = sync.Step(n, sync.Event{What: sync.Database, Flags: 1, Seq: 101, Heads: a.heads, Own: a.own})
		if !slices.Equal(got.Want, a.then) || (got.State == sync.Full) != (len(a.then) == 0) {
			t.Errorf("%s: it leads: %v, want %v", what, got, a.then)
		}
	}
}

// P14.1
func TestTaken(t *testing.T) {
	for state := range 7 {
		for _, a := range []struct{ want, came, left []lsa.Key }{
			{keys(1, 2), nil, keys(1, 2)}, {keys(1, 2), keys(1), keys(2)}, {keys(1, 2), keys(9, 2, 2), keys(1)}, {keys(1, 2), keys(2, 1), nil}, {keys(1, 1), keys(1), nil},
			{nil, nil, nil}, {nil, keys(1), nil}, {keys(1, 2, 3, 1), keys(1, 4), keys(2, 3)}, {keys(1), []lsa.Key{{Type: 2, Id: 1, Adv: 1}}, keys(1)},
		} {
			n := with(neighbor(state, below), func(n *sync.Neighbor) { n.Want = a.want })
			want := with(n, func(n *sync.Neighbor) { n.Want = a.left })
			if state == sync.Loading && len(a.left) == 0 {
				want.State = sync.Full
			}
			wantStep(t, "taken", n, sync.Event{What: sync.Taken, Keys: a.came, Again: 9}, want, nil)
		}
	}
}

// P14.1
func TestAsked(t *testing.T) {
	own := []lsa.Header{head(1, 1), head(2, 1), head(2, 2)}
	for state := range 7 {
		n := neighbor(state, above)
		for _, a := range []struct {
			ids []uint32
			has bool
		}{{nil, true}, {[]uint32{1}, true}, {[]uint32{2, 1, 2}, true}, {[]uint32{3}, false}, {[]uint32{1, 2, 3}, false}, {[]uint32{3, 1}, false}} {
			e := sync.Event{What: sync.Asked, Own: own, Keys: keys(a.ids...), Again: 9}
			switch {
			case state < sync.Exchange:
				wantNothing(t, "asked", n, e)
			case a.has:
				wantStep(t, "asked", n, e, n, dos(update(a.ids...)))
			default:
				wantAnew(t, "asked", n, e)
			}
		}
		near := sync.Event{What: sync.Asked, Own: own, Keys: []lsa.Key{{Type: 1, Id: 1, Adv: 2}}, Again: 9}
		if state >= sync.Exchange {
			wantAnew(t, "nearly", n, near)
		}
	}
}

// P14.1
func TestAcked(t *testing.T) {
	for state := range 7 {
		for _, a := range []struct{ came, left []lsa.Key }{{nil, keys(3, 4)}, {keys(3), keys(4)}, {keys(9, 4, 4), keys(3)}, {keys(4, 3), nil}, {keys(1, 2), keys(3, 4)}} {
			n := neighbor(state, below)
			want := with(n, func(n *sync.Neighbor) { n.Owe = a.left })
			wantStep(t, "acked", n, sync.Event{What: sync.Acked, Keys: a.came, Again: 9}, want, nil)
		}
	}
}

// P14.1
func TestFloods(t *testing.T) {
	for state := range 7 {
		for _, a := range []struct{ came, owed []uint32 }{
			{nil, []uint32{3, 4}}, {[]uint32{5}, []uint32{3, 4, 5}}, {[]uint32{4}, []uint32{3, 4}}, {[]uint32{7, 3, 6, 7, 6}, []uint32{3, 4, 7, 6}}, {[]uint32{1, 2}, []uint32{3, 4, 1, 2}},
		} {
			n := neighbor(state, below)
			e := sync.Event{What: sync.Floods, Keys: keys(a.came...), Again: 9}
			if state < sync.Exchange || len(a.came) == 0 {
				wantNothing(t, "floods", n, e)
				continue
			}
			want := with(n, func(n *sync.Neighbor) { n.Owe = keys(a.owed...) })
			wantStep(t, "floods", n, e, want, dos(update(a.came...)))
		}
	}
}

// P14.1: what isn't named.
func TestOtherEvents(t *testing.T) {
	for state := range 7 {
		for _, what := range []int{math.MinInt, -1, 0, 9, 10, math.MaxInt} {
			wantNothing(t, "another one", neighbor(state, below), sync.Event{What: what, Yes: true, Keys: keys(1, 3), Heads: []lsa.Header{head(8, 8)}, Flags: 7, Seq: 100, Again: 9, Dead: 1})
		}
	}
}

// P1, P14.1: all ends, even where nothing is promised.
func TestAllArguments(t *testing.T) {
	r := rand.New(rand.NewSource(1))
	far := []int{math.MinInt, math.MinInt + 1, -1, 7, 8, math.MaxInt}
	for range 20000 {
		n := anyNeighbor(r)
		e := anyEvent(r, n)
		n.State, n.Left, n.Wait = far[r.Intn(6)], far[r.Intn(6)], far[r.Intn(6)]
		e.Dead, e.Again, e.Flags = far[r.Intn(6)], far[r.Intn(6)], far[r.Intn(6)]
		sync.Step(n, e)
	}
}

// P14.1: lists of any length.
func TestLongLists(t *testing.T) {
	var ids []uint32
	var heads []lsa.Header
	for id := range uint32(20000) {
		ids = append(ids, id)
		heads = append(heads, head(id, 1))
	}
	n := sync.Neighbor{State: sync.ExStart, Me: 2, Id: 1}
	n, _ = sync.Step(n, sync.Event{What: sync.Database, Heads: heads})
	n, sent := sync.Step(n, sync.Event{What: sync.Database, Seq: 1})
	if n.State != sync.Loading || !alike(sent, dos(request(ids...))) {
		t.Error("not all are asked for")
	}
	n, sent = sync.Step(n, sync.Event{What: sync.Floods, Keys: keys(ids...)})
	if !slices.Equal(n.Owe, keys(ids...)) || !alike(sent, dos(update(ids...))) {
		t.Error("not all are owed")
	}
	n, _ = sync.Step(n, sync.Event{What: sync.Acked, Keys: keys(ids[1:]...)})
	n, _ = sync.Step(n, sync.Event{What: sync.Taken, Keys: keys(ids...)})
	if n.State != sync.Full || !slices.Equal(n.Owe, keys(0)) {
		t.Errorf("state %d, %d owed", n.State, len(n.Owe))
	}
}

// P14.3
func TestNothingIsKeptOrShared(t *testing.T) {
	r := rand.New(rand.NewSource(3))
	for range 50000 {
		n := anyNeighbor(r)
		e := anyEvent(r, n)
		room := func(l []lsa.Key) []lsa.Key { return append(slices.Clone(l), key(77), key(78))[:len(l)] }
		n.Want, n.Owe, e.Keys = room(n.Want), room(n.Owe), room(e.Keys)
		got, sent := sync.Step(n, e)
		again, more := sync.Step(n, e)
		// whatever is done to one answer, and to what was handed in, the other answer stays
		fill(got.Want)
		for _, d := range sent {
			if slices.Contains(d.Keys, key(99)) {
				t.Fatalf("of %v and %v: what is sent shares what is asked for", n, e)
			}
			fill(d.Keys)
		}
		if slices.Contains(got.Owe, key(99)) {
			t.Fatalf("of %v and %v: what is owed shares another list", n, e)
		}
		fill(got.Owe)
		for _, l := range [][]lsa.Key{n.Want, n.Owe, e.Keys} {
			if slices.Contains(l, key(99)) || !slices.Equal(l[len(l):len(l)+2], keys(77, 78)) {
				t.Fatalf("of %v and %v: what was handed in is changed", n, e)
			}
		}
		third, last := sync.Step(n, e)
		fill(n.Want)
		fill(n.Owe)
		fill(e.Keys)
		if !same(again, third) || !alike(more, last) {
			t.Fatalf("of %v and %v: an answer has changed", n, e)
		}
	}
}

// fill lays another key all over a list, and over its spare room.
func fill(l []lsa.Key) {
	for i := range l[:cap(l)] {
		l[:cap(l)][i] = key(99)
	}
}
