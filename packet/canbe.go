package packet

import (
	"slices"
	"strings"

	"waystone/lsa"
)

// canBe tells whether a packet is of a type, and holds what that type tells, and nothing else; whether its Lsas can be put is not asked here.
func canBe(p Packet) bool {
	if !within(p.Type, Hello, Ack) || holdsOther(p) {
		return false
	}
	if p.Type == Hello && !greets(p.Hello) {
		return false
	}
	return len(p.Auth) <= maxAuth && strings.IndexByte(p.Auth, 0) < 0 &&
		within(p.Flags, 0, maxFlags) &&
		len(p.Heads) <= maxList && !slices.ContainsFunc(p.Heads, isWrongHead) &&
		len(p.Keys) <= maxList && !slices.ContainsFunc(p.Keys, isWrongKey) &&
		len(p.Lsas) <= maxList
}

// holdsOther tells whether something is there that the packet's type doesn't tell.
func holdsOther(p Packet) bool {
	return p.Type != Hello && !isNone(p.Hello) ||
		p.Type != Database && (p.Flags != 0 || p.Seq != 0) ||
		p.Type != Database && p.Type != Ack && len(p.Heads) > 0 ||
		p.Type != Request && len(p.Keys) > 0 ||
		p.Type != Update && len(p.Lsas) > 0
}

// isNone tells whether nothing is greeted.
func isNone(g Greeting) bool {
	return g.Mask == 0 && g.Interval == 0 && g.Dead == 0 && g.Priority == 0 && g.Dr == 0 && g.Bdr == 0 && len(g.Neighbors) == 0
}

// greets tells whether a greeting's numbers can be.
func greets(g Greeting) bool {
	return within(g.Interval, 1, maxNumber) && within(g.Dead, 1, maxNumber) && within(g.Priority, 0, maxByte) && len(g.Neighbors) <= maxList
}

func isWrongHead(h lsa.Header) bool {
	return !within(h.Age, 0, maxNumber) || !within(h.Len, 0, maxNumber) || !within(h.Seq, minSeq, maxSeq) || isWrongKey(h.Key)
}

func isWrongKey(k lsa.Key) bool {
	return !within(k.Type, 0, maxByte)
}

func within(n, lo, hi int) bool {
	return n >= lo && n <= hi
}
