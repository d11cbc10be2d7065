package lsa_test

import (
	"encoding/binary"
	"math/rand"
	"slices"
	"testing"

	"waystone/api"
	"waystone/lsa"
)

func router(links ...lsa.Link) lsa.Lsa {
	return lsa.Lsa{Age: 5, Key: lsa.Key{Type: lsa.Router, Id: 0x01020304, Adv: 0x01020304}, Seq: api.FirstSeq, Links: links}
}

func network(routers ...uint32) lsa.Lsa {
	return lsa.Lsa{Age: 1, Key: lsa.Key{Type: lsa.Network, Id: 0x0A000001, Adv: 0x01020304}, Seq: 7, Mask: 0xFFFFFF00, Routers: routers}
}

func summary(cost int) lsa.Lsa {
	return lsa.Lsa{Key: lsa.Key{Type: lsa.Summary, Id: 0x0A000000, Adv: 0x01020304}, Seq: -1, Mask: 0xFFFF0000, Cost: cost}
}

func link(kind, cost int) lsa.Link {
	return lsa.Link{Id: 0xC0A8AA00, Data: 0xFFFFFF00, Type: kind, Cost: cost}
}

// links are so many, each another one.
func links(n int) []lsa.Link {
	var l []lsa.Link
	for i := range n {
		l = append(l, lsa.Link{Id: uint32(i) << 24, Data: uint32(i), Type: 1 + i%4, Cost: i * 1000})
	}
	return l
}

// numbers are so many, each another one.
func numbers(n int) []uint32 {
	var l []uint32
	for i := range n {
		l = append(l, 0xFFFFFFFF-uint32(i))
	}
	return l
}

// with is l with a change.
func with(l lsa.Lsa, change func(l *lsa.Lsa)) lsa.Lsa {
	change(&l)
	return l
}

// rights are Lsas that can be, at all limits.
func rights() []lsa.Lsa {
	return []lsa.Lsa{
		router(), router(link(1, 0)), router(link(3, 10), link(4, 65535)), router(links(39)...), router(links(40)...),
		network(1), network(1, 0, 0xFFFFFFFF), network(numbers(40)...),
		summary(0), summary(1), summary(16777215),
		with(router(), func(l *lsa.Lsa) { l.Age = 0 }), with(router(), func(l *lsa.Lsa) { l.Age = 3600 }),
		with(summary(9), func(l *lsa.Lsa) { l.Seq = 2147483647 }), with(summary(9), func(l *lsa.Lsa) { l.Seq = 0 }),
		with(network(9), func(l *lsa.Lsa) { l.Mask = 0 }), with(network(9), func(l *lsa.Lsa) { l.Key.Id, l.Key.Adv = 0, 0xFFFFFFFF }),
		with(router(), func(l *lsa.Lsa) { l.Links, l.Routers = []lsa.Link{}, []uint32{} }),
	}
}

// wrongs are Lsas that can't be, each for a cause of its own.
func wrongs() map[string]lsa.Lsa {
	return map[string]lsa.Lsa{
		"nothing":                      {},
		"type 0":                       with(router(), func(l *lsa.Lsa) { l.Key.Type = 0 }),
		"type 4":                       with(summary(1), func(l *lsa.Lsa) { l.Key.Type = 4 }),
		"a type below 0":               with(router(), func(l *lsa.Lsa) { l.Key.Type = -1 }),
		"a type beyond a byte":         with(router(), func(l *lsa.Lsa) { l.Key.Type = 257 }),
		"an age below 0":               with(router(), func(l *lsa.Lsa) { l.Age = -1 }),
		"an age of 3601":               with(router(), func(l *lsa.Lsa) { l.Age = 3601 }),
		"an age beyond two bytes":      with(router(), func(l *lsa.Lsa) { l.Age = 65536 }),
		"a number too small":           with(router(), func(l *lsa.Lsa) { l.Seq = -2147483648 }),
		"a number too great":           with(router(), func(l *lsa.Lsa) { l.Seq = 2147483648 }),
		"a number beyond four bytes":   with(router(), func(l *lsa.Lsa) { l.Seq = 1<<32 + 1 }),
		"a router with 41 links":       router(links(41)...),
		"a link of type 0":             router(link(1, 1), link(0, 1)),
		"a link of type 5":             router(link(5, 1)),
		"a link of a type beyond":      router(link(257, 1)),
		"a link of a cost below 0":     router(link(1, -1), link(1, 1)),
		"a link of cost 65536":         router(link(1, 65536)),
		"a router with a mask":         with(router(), func(l *lsa.Lsa) { l.Mask = 1 }),
		"a router with routers":        with(router(link(1, 1)), func(l *lsa.Lsa) { l.Routers = []uint32{0} }),
		"a router with a cost":         with(router(), func(l *lsa.Lsa) { l.Cost = 1 }),
		"a router with a cost below 0": with(router(), func(l *lsa.Lsa) { l.Cost = -1 }),
		"a network without routers":    network(),
		"a network with 41 routers":    network(numbers(41)...),
		"a network with a link":        with(network(1), func(l *lsa.Lsa) { l.Links = links(1) }),
		"a network with a cost":        with(network(1), func(l *lsa.Lsa) { l.Cost = 1 }),
		"a summary of a cost below 0":  summary(-1),
		"a summary of too great cost":  summary(16777216),
		"a summary of a cost beyond":   summary(1 << 32),
		"a summary with a link":        with(summary(1), func(l *lsa.Lsa) { l.Links = links(1) }),
		"a summary with a router":      with(summary(1), func(l *lsa.Lsa) { l.Routers = []uint32{1} }),
	}
}

func anyLsa(r *rand.Rand) lsa.Lsa {
	l := lsa.Lsa{Age: r.Intn(3601), Key: lsa.Key{Type: 1 + r.Intn(3), Id: r.Uint32(), Adv: r.Uint32()}, Seq: r.Intn(1<<32-1) - 2147483647}
	switch l.Key.Type {
	case lsa.Router:
		for range r.Intn(41) {
			l.Links = append(l.Links, lsa.Link{Id: r.Uint32(), Data: r.Uint32(), Type: 1 + r.Intn(4), Cost: r.Intn(65536)})
		}
	case lsa.Network:
		l.Mask = r.Uint32()
		for range 1 + r.Intn(40) {
			l.Routers = append(l.Routers, r.Uint32())
		}
	default:
		l.Mask, l.Cost = r.Uint32(), r.Intn(1<<24)
	}
	return l
}

// headBytes is a header as the document lays it, by other means than the program's.
func headBytes(h lsa.Header) []byte {
	b := binary.BigEndian.AppendUint16(nil, uint16(h.Age))
	b = append(b, 2, byte(h.Key.Type))
	b = binary.BigEndian.AppendUint32(b, h.Key.Id)
	b = binary.BigEndian.AppendUint32(b, h.Key.Adv)
	b = binary.BigEndian.AppendUint32(b, uint32(h.Seq))
	b = binary.BigEndian.AppendUint16(b, h.Sum)
	return binary.BigEndian.AppendUint16(b, uint16(h.Len))
}

// bytesOf is an Lsa as the document lays it, whether it can be or not.
func bytesOf(l lsa.Lsa) []byte {
	b := headBytes(lsa.Header{Age: l.Age, Key: l.Key, Seq: l.Seq})
	switch l.Key.Type {
	case lsa.Router:
		b = binary.BigEndian.AppendUint16(append(b, 0, 0), uint16(len(l.Links)))
		for _, k := range l.Links {
			b = binary.BigEndian.AppendUint32(b, k.Id)
			b = binary.BigEndian.AppendUint32(b, k.Data)
			b = binary.BigEndian.AppendUint16(append(b, byte(k.Type), 0), uint16(k.Cost))
		}
	case lsa.Network:
		b = binary.BigEndian.AppendUint32(b, l.Mask)
		for _, n := range l.Routers {
			b = binary.BigEndian.AppendUint32(b, n)
		}
	default:
		b = binary.BigEndian.AppendUint32(b, l.Mask)
		b = append(b, 0, byte(l.Cost>>16), byte(l.Cost>>8), byte(l.Cost))
	}
	return sealed(b)
}

// sealed is bytes with their count and their sum laid in.
func sealed(b []byte) []byte {
	b = slices.Clone(b)
	binary.BigEndian.PutUint16(b[18:], uint16(len(b)))
	return summed(b)
}

// summed is bytes with their sum laid in: the one of all pairs that makes them right.
func summed(b []byte) []byte {
	b = slices.Clone(b)
	for x := range 255 {
		b[16], b[17] = byte(x), 0
		c0, _ := weights(b[2:])
		b[17] = byte((255 - c0) % 255)
		if _, c1 := weights(b[2:]); c1 == 0 {
			return b
		}
	}
	panic("no sum")
}

// weights tells both sums of bytes.
func weights(b []byte) (int, int) {
	c0, c1 := 0, 0
	for i, c := range b {
		c0 += int(c)
		c1 += (len(b) - i) * int(c)
	}
	return c0 % 255, c1 % 255
}

// same tells whether two Lsas are the same in all that they hold.
func same(a, b lsa.Lsa) bool {
	return a.Age == b.Age && a.Key == b.Key && a.Seq == b.Seq && a.Mask == b.Mask && a.Cost == b.Cost && slices.Equal(a.Links, b.Links) && slices.Equal(a.Routers, b.Routers)
}

func wantGot(t *testing.T, what string, b []byte, want lsa.Lsa) {
	t.Helper()
	if l, e := lsa.Get(b); e != api.OK || !same(l, want) {
		t.Errorf("%s: Get: error %d, %v, want %v", what, e, l, want)
	}
}

func wantRefused(t *testing.T, what string, b []byte, want api.Errno) {
	t.Helper()
	if l, e := lsa.Get(b); e != want || !same(l, lsa.Lsa{}) {
		t.Errorf("%s: Get(%x): error %d, %v, want error %d", what, b, e, l, want)
	}
}
