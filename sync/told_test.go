package sync_test

import (
	"math/rand"
	"slices"
	"testing"

	"waystone/lsa"
	"waystone/sync"
)

// rule is a line of the document's table: where it applies, the neighbor becomes what it tells, and that is sent.
type rule struct {
	what   int
	states []int
	when   bool
	then   func() (sync.Neighbor, []sync.Do)
}

// told is Step by other means: the first rule that applies.
func told(n sync.Neighbor, e sync.Event) (sync.Neighbor, []sync.Do) {
	rules := slices.Concat(rulesOfGreets(n, e), rulesOfTicks(n, e), rulesOfDatabases(n, e), rulesOfKeys(n, e))
	for _, r := range rules {
		if r.what == e.What && slices.Contains(r.states, n.State) && r.when {
			return r.then()
		}
	}
	return n, nil
}

func rulesOfGreets(n sync.Neighbor, e sync.Event) []rule {
	heard := n
	heard.Left, heard.Priority, heard.Dr, heard.Bdr = e.Dead, e.Priority, e.Dr, e.Bdr
	to := func(state int) func() (sync.Neighbor, []sync.Do) {
		return func() (sync.Neighbor, []sync.Do) { heard.State = state; return heard, nil }
	}
	return []rule{
		{1, states(0, 1), e.Yes, to(2)},
		{1, states(0, 1), !e.Yes, to(1)},
		{1, states(2, 6), e.Yes, to(n.State)},
		{1, states(2, 6), !e.Yes, func() (sync.Neighbor, []sync.Do) { return fallen(heard, 1), nil }},
		{3, states(2, 2), e.Yes, func() (sync.Neighbor, []sync.Do) { return anew(n, e.Again) }},
		{3, states(3, 6), !e.Yes, func() (sync.Neighbor, []sync.Do) { return fallen(n, 2), nil }},
	}
}

func rulesOfTicks(n sync.Neighbor, e sync.Event) []rule {
	later, again := n, n
	later.Left--
	again.Left--
	later.Wait--
	again.Wait = e.Again
	var owed []sync.Do
	if len(n.Owe) > 0 {
		owed = dos(sync.Do{What: 4, Keys: n.Owe})
	}
	sent := func(l ...sync.Do) func() (sync.Neighbor, []sync.Do) {
		return func() (sync.Neighbor, []sync.Do) { return again, l }
	}
	return []rule{
		{2, states(1, 6), n.Left <= 1, func() (sync.Neighbor, []sync.Do) { n.Left--; return fallen(n, 0), nil }},
		{2, states(1, 2), true, func() (sync.Neighbor, []sync.Do) { n.Left--; return n, nil }},
		{2, states(3, 6), n.Wait > 1, func() (sync.Neighbor, []sync.Do) { return later, nil }},
		{2, states(3, 3), true, sent(database(7, n.Seq, false))},
		{2, states(4, 4), n.Me > n.Id, sent(append(dos(database(1, n.Seq, true)), owed...)...)},
		{2, states(4, 4), true, sent(owed...)},
		{2, states(5, 5), true, sent(append(dos(sync.Do{What: 3, Keys: n.Want}), owed...)...)},
		{2, states(6, 6), true, sent(owed...)},
	}
}

func rulesOfDatabases(n sync.Neighbor, e sync.Event) []rule {
	above, seq := n.Id > n.Me, n.Seq
	heads := func(first sync.Do) func() (sync.Neighbor, []sync.Do) {
		return func() (sync.Neighbor, []sync.Do) {
			n.State, n.Seq = 4, first.Seq
			if first.Flags == 1 {
				n.Want = takenOf(n.Want, e)
			}
			return n, dos(first)
		}
	}
	end := func(sent ...sync.Do) (sync.Neighbor, []sync.Do) {
		n.State = 6
		if len(n.Want) > 0 {
			n.State = 5
			sent = append(sent, sync.Do{What: 3, Keys: n.Want})
		}
		return n, sent
	}
	takeAndEnd := func() (sync.Neighbor, []sync.Do) {
		n.Want, n.Seq = takenOf(n.Want, e), seq+1
		return end(database(0, seq+1, false))
	}
	return []rule{
		{4, states(3, 3), e.Flags == 7 && len(e.Heads) == 0 && above, heads(database(0, e.Seq, true))},
		{4, states(3, 3), e.Flags%2 == 0 && e.Flags/4%2 == 0 && e.Seq == seq && n.Id < n.Me, heads(database(1, seq+1, true))},
		{4, states(4, 4), above && e.Flags == 7 && e.Seq == seq, func() (sync.Neighbor, []sync.Do) { return n, dos(database(0, seq, true)) }},
		{4, states(4, 4), above && e.Flags == 1 && e.Seq == seq+1, takeAndEnd},
		{4, states(4, 4), !above && e.Flags == 0 && e.Seq == seq, func() (sync.Neighbor, []sync.Do) { return end() }},
		{4, states(5, 6), above && e.Flags == 1 && e.Seq == seq, func() (sync.Neighbor, []sync.Do) { return n, dos(database(0, seq, false)) }},
		{4, states(5, 6), !above && e.Flags == 0 && e.Seq == seq, func() (sync.Neighbor, []sync.Do) { return n, nil }},
		{4, states(4, 6), true, func() (sync.Neighbor, []sync.Do) { return anew(n, e.Again) }},
	}
}

func rulesOfKeys(n sync.Neighbor, e sync.Event) []rule {
	left, paid, owes := n, n, n
	left.Want, paid.Owe, owes.Owe = gone(n.Want, e.Keys), gone(n.Owe, e.Keys), slices.Clone(n.Owe)
	for _, k := range e.Keys {
		if !slices.Contains(owes.Owe, k) {
			owes.Owe = append(owes.Owe, k)
		}
	}
	sent := dos(sync.Do{What: 4, Keys: e.Keys})
	return []rule{
		{5, states(5, 5), len(left.Want) == 0, func() (sync.Neighbor, []sync.Do) { left.State = 6; return left, nil }},
		{5, states(0, 6), true, func() (sync.Neighbor, []sync.Do) { return left, nil }},
		{6, states(4, 6), slices.ContainsFunc(e.Keys, func(k lsa.Key) bool { return ownOf(e, k) == nil }), func() (sync.Neighbor, []sync.Do) { return anew(n, e.Again) }},
		{6, states(4, 6), true, func() (sync.Neighbor, []sync.Do) { return n, sent }},
		{7, states(0, 6), true, func() (sync.Neighbor, []sync.Do) { return paid, nil }},
		{8, states(4, 6), len(e.Keys) > 0, func() (sync.Neighbor, []sync.Do) { return owes, sent }},
	}
}

// ownOf is the first header of ours of that key.
func ownOf(e sync.Event, k lsa.Key) *lsa.Header {
	for i := range e.Own {
		if e.Own[i].Key == k {
			return &e.Own[i]
		}
	}
	return nil
}

// takenOf is want, with what is taken of heads.
func takenOf(want []lsa.Key, e sync.Event) []lsa.Key {
	want = slices.Clone(want)
	for _, h := range e.Heads {
		ours := ownOf(e, h.Key)
		if !slices.Contains(want, h.Key) && (ours == nil || lsa.Compare(h, *ours) > 0) {
			want = append(want, h.Key)
		}
	}
	return want
}

func gone(l, out []lsa.Key) []lsa.Key {
	return slices.DeleteFunc(slices.Clone(l), func(k lsa.Key) bool { return slices.Contains(out, k) })
}

// P14.1, P14.3: any neighbors and events, beside a second way of telling.
func TestAnyStep(t *testing.T) {
	r := rand.New(rand.NewSource(14))
	met := map[[3]int]int{}
	for range 200000 {
		n := anyNeighbor(r)
		e := anyEvent(r, n)
		before, want, sent := cloneOf(n), sync.Neighbor{}, []sync.Do(nil)
		heads, own, given := slices.Clone(e.Heads), slices.Clone(e.Own), slices.Clone(e.Keys)
		got, out := sync.Step(n, e)
		want, sent = told(cloneOf(n), e)
		if !same(got, want) || !alike(out, sent) {
			t.Fatalf("of %v and %v: %v, %v, want %v, %v", n, e, got, out, want, sent)
		}
		if !same(n, before) || !slices.Equal(e.Heads, heads) || !slices.Equal(e.Own, own) || !slices.Equal(e.Keys, given) {
			t.Fatalf("what was handed in is changed: %v, %v", n, e)
		}
		met[[3]int{e.What, n.State, got.State}]++
	}
	for _, way := range [][3]int{{4, 3, 4}, {4, 4, 5}, {4, 4, 6}, {4, 4, 3}, {4, 5, 3}, {4, 5, 5}, {4, 6, 6}, {5, 5, 6}, {6, 4, 3}, {2, 6, 0}, {3, 2, 3}} {
		if met[way] == 0 {
			t.Errorf("none of event %d led from %d to %d", way[0], way[1], way[2])
		}
	}
}
