package sync_test

import (
	"math/rand"
	"reflect"
	"slices"
	"testing"

	"waystone/lsa"
	"waystone/sync"
)

func key(id uint32) lsa.Key { return lsa.Key{Type: lsa.Router, Id: id, Adv: id} }

func keys(ids ...uint32) []lsa.Key {
	var l []lsa.Key
	for _, id := range ids {
		l = append(l, key(id))
	}
	return l
}

func head(id uint32, seq int) lsa.Header { return lsa.Header{Key: key(id), Seq: seq, Len: 24} }

// neighbor is one that has to do with all fields: its number is 5, and ours that.
func neighbor(state int, me uint32) sync.Neighbor {
	return sync.Neighbor{State: state, Me: me, Id: 5, Priority: 3, Dr: 11, Bdr: 12, Left: 40, Seq: 100, Wait: 7, Want: keys(1, 2), Owe: keys(3, 4)}
}

// with is n with a change.
func with(n sync.Neighbor, change func(n *sync.Neighbor)) sync.Neighbor {
	n = cloneOf(n)
	change(&n)
	return n
}

func cloneOf(n sync.Neighbor) sync.Neighbor {
	n.Want, n.Owe = slices.Clone(n.Want), slices.Clone(n.Owe)
	return n
}

// fallen is n, fallen to a state.
func fallen(n sync.Neighbor, state int) sync.Neighbor {
	n.State, n.Want, n.Owe = state, nil, nil
	return n
}

// anew is n, begun anew, and what is sent then.
func anew(n sync.Neighbor, again int) (sync.Neighbor, []sync.Do) {
	n = fallen(n, sync.ExStart)
	n.Seq, n.Wait = n.Seq+1, again
	return n, dos(database(7, n.Seq, false))
}

func dos(l ...sync.Do) []sync.Do { return l }

func database(flags int, seq uint32, heads bool) sync.Do {
	return sync.Do{What: 2, Flags: flags, Seq: seq, Heads: heads}
}

func request(ids ...uint32) sync.Do { return sync.Do{What: 3, Keys: keys(ids...)} }

func update(ids ...uint32) sync.Do { return sync.Do{What: 4, Keys: keys(ids...)} }

// wantStep asks for just that neighbor, and that to be sent.
func wantStep(t *testing.T, what string, n sync.Neighbor, e sync.Event, want sync.Neighbor, sent []sync.Do) {
	t.Helper()
	got, out := sync.Step(n, e)
	if !same(got, want) || !alike(out, sent) {
		t.Errorf("%s: of %v and %v: %v, %v, want %v, %v", what, n, e, got, out, want, sent)
	}
}

// wantNothing asks for n as it is, and nothing to be sent.
func wantNothing(t *testing.T, what string, n sync.Neighbor, e sync.Event) {
	t.Helper()
	wantStep(t, what, n, e, n, nil)
}

// wantAnew asks for n to begin anew.
func wantAnew(t *testing.T, what string, n sync.Neighbor, e sync.Event) {
	t.Helper()
	want, sent := anew(n, e.Again)
	wantStep(t, what, n, e, want, sent)
}

// same tells whether two are the same in all that they hold, where a list of nothing is as none.
func same(a, b sync.Neighbor) bool { return reflect.DeepEqual(plain(a), plain(b)) }

func plain(n sync.Neighbor) sync.Neighbor {
	n.Want, n.Owe = append([]lsa.Key{}, n.Want...), append([]lsa.Key{}, n.Owe...)
	return n
}

func alike(a, b []sync.Do) bool {
	return slices.EqualFunc(a, b, func(a, b sync.Do) bool {
		return a.What == b.What && a.Flags == b.Flags && a.Seq == b.Seq && a.Heads == b.Heads && slices.Equal(a.Keys, b.Keys)
	})
}

// states are those from one to another one.
func states(from, to int) []int {
	var l []int
	for s := from; s <= to; s++ {
		l = append(l, s)
	}
	return l
}

func anyKeys(r *rand.Rand) []lsa.Key {
	var l []lsa.Key
	for range r.Intn(4) {
		l = append(l, key(uint32(r.Intn(4))))
	}
	return l
}

func anyHeads(r *rand.Rand) []lsa.Header {
	var l []lsa.Header
	for range r.Intn(5) {
		h := head(uint32(r.Intn(4)), r.Intn(2))
		h.Sum, h.Age = uint16(r.Intn(2)), []int{0, 900, 901, 3600}[r.Intn(4)]
		l = append(l, h)
	}
	return l
}

func anyNeighbor(r *rand.Rand) sync.Neighbor {
	seq := []uint32{0, 1, 2, 0xFFFFFFFF}[r.Intn(4)]
	return sync.Neighbor{
		State: r.Intn(7), Me: uint32(r.Intn(3)), Id: uint32(r.Intn(3)), Priority: r.Intn(3), Dr: uint32(r.Intn(3)), Bdr: uint32(r.Intn(3)),
		Left: anyTicks(r), Seq: seq, Wait: anyTicks(r), Want: anyKeys(r), Owe: anyKeys(r),
	}
}

func anyEvent(r *rand.Rand, n sync.Neighbor) sync.Event {
	return sync.Event{
		What: r.Intn(10), Yes: r.Intn(2) == 0, Priority: r.Intn(300), Dr: uint32(r.Intn(5)), Bdr: uint32(r.Intn(5)), Dead: anyTicks(r), Again: anyTicks(r),
		Flags: []int{0, 0, 1, 1, 7, 7, 2, 3, 4, 5, 6, 8, 9, 15, -1, -8}[r.Intn(16)], Seq: n.Seq + uint32(r.Intn(4)) - 1, Heads: anyHeads(r), Own: anyHeads(r), Keys: anyKeys(r),
	}
}

func anyTicks(r *rand.Rand) int {
	return []int{-1 << 62, -1, 0, 1, 2, 3, 40, 1<<63 - 1}[r.Intn(8)]
}
