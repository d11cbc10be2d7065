package packet_test

import (
	"encoding/binary"
	"encoding/hex"
	"math/rand"
	"reflect"
	"slices"
	"strings"
	"testing"

	"waystone/api"
	"waystone/lsa"
	"waystone/packet"
)

func hello(neighbors ...uint32) packet.Packet {
	g := packet.Greeting{Mask: 0xFFFFFF00, Interval: 10, Dead: 40, Priority: 1, Dr: 0x0A000001, Bdr: 0x0A000002, Neighbors: neighbors}
	return packet.Packet{Type: packet.Hello, Router: 0x01010101, Area: 0x00000002, Auth: "key", Hello: g}
}

func database(flags int, heads ...lsa.Header) packet.Packet {
	return packet.Packet{Type: packet.Database, Router: 1, Area: 0, Flags: flags, Seq: 0x4177A97E, Heads: heads}
}

func request(keys ...lsa.Key) packet.Packet {
	return packet.Packet{Type: packet.Request, Router: 0xFFFFFFFF, Area: 0xFFFFFFFF, Auth: "12345678", Keys: keys}
}

func update(lsas ...lsa.Lsa) packet.Packet {
	return packet.Packet{Type: packet.Update, Router: 1, Area: 2, Auth: "k", Lsas: lsas}
}

func ack(heads ...lsa.Header) packet.Packet {
	return packet.Packet{Type: packet.Ack, Router: 3, Area: 4, Heads: heads}
}

// with is p with a change.
func with(p packet.Packet, change func(p *packet.Packet)) packet.Packet {
	change(&p)
	return p
}

func key(n int) lsa.Key { return lsa.Key{Type: n % 256, Id: uint32(n), Adv: 0xFFFFFFFF - uint32(n)} }

func head(n int) lsa.Header {
	return lsa.Header{Age: n, Key: key(n), Seq: api.FirstSeq + n, Sum: uint16(n) << 8, Len: 20 + n}
}

func summary(n int) lsa.Lsa {
	return lsa.Lsa{Age: n, Key: lsa.Key{Type: lsa.Summary, Id: uint32(n), Adv: 7}, Seq: n, Mask: 0xFFFF0000, Cost: n}
}

func router(links int) lsa.Lsa {
	l := lsa.Lsa{Key: lsa.Key{Type: lsa.Router, Id: 9, Adv: 9}, Seq: -1}
	for i := range links {
		l.Links = append(l.Links, lsa.Link{Id: uint32(i), Data: 5, Type: 1 + i%4, Cost: i})
	}
	return l
}

func network() lsa.Lsa {
	return lsa.Lsa{Key: lsa.Key{Type: lsa.Network, Id: 1, Adv: 9}, Seq: 3, Mask: 0xFFFFFF00, Routers: []uint32{9, 10}}
}

// some is so many of a thing, each another one.
func some[T any](n int, one func(n int) T) []T {
	var l []T
	for i := range n {
		l = append(l, one(i))
	}
	return l
}

func number(n int) uint32 { return 0xFFFFFFF0 + uint32(n) }

// rights are packets that can be, at all limits.
func rights() []packet.Packet {
	far := lsa.Header{Age: 65535, Key: lsa.Key{Type: 255, Id: 0xFFFFFFFF, Adv: 0xFFFFFFFF}, Seq: 2147483647, Sum: 0xFFFF, Len: 65535}
	big := lsa.Lsa{Age: 3600, Key: lsa.Key{Type: lsa.Router}, Seq: api.LastSeq, Links: router(40).Links}
	return []packet.Packet{
		hello(), hello(7), hello(some(20, number)...), with(hello(), func(p *packet.Packet) { p.Hello = packet.Greeting{Interval: 1, Dead: 1} }),
		with(hello(), func(p *packet.Packet) { p.Hello.Interval, p.Hello.Dead, p.Hello.Priority = 65535, 65535, 255 }),
		database(0), database(7), database(1, head(1)), database(6, some(20, head)...), with(database(0), func(p *packet.Packet) { p.Seq = 0xFFFFFFFF }),
		with(database(0, far, lsa.Header{}, lsa.Header{Seq: -2147483648}), func(p *packet.Packet) { p.Seq = 0 }),
		request(), request(lsa.Key{}), request(lsa.Key{Type: 255, Id: 1, Adv: 2}), request(some(20, key)...),
		update(), update(summary(1)), update(router(0), network(), summary(1677), router(3)), update(some(20, summary)...),
		update(big, big, big, big, big, big, big, big, big, big, big, big, big, big, big, big, big, big, big, big),
		ack(), ack(far), ack(some(20, head)...),
		{Type: packet.Ack}, {Type: packet.Request}, {Type: packet.Update}, {Type: packet.Database},
		with(ack(), func(p *packet.Packet) { p.Auth = "\x01\xFF " }), with(ack(), func(p *packet.Packet) { p.Auth = "ooooooo8" }),
		with(hello(), func(p *packet.Packet) { p.Heads, p.Keys, p.Lsas = []lsa.Header{}, []lsa.Key{}, []lsa.Lsa{} }),
		with(ack(), func(p *packet.Packet) { p.Hello.Neighbors, p.Heads = []uint32{}, []lsa.Header{} }),
	}
}

// wrongs are packets that can't be, each for a cause of its own.
func wrongs() map[string]packet.Packet {
	m := map[string]packet.Packet{"nothing": {}}
	add := func(what string, p packet.Packet, change func(p *packet.Packet)) { m[what] = with(p, change) }
	for what, kind := range map[string]int{"type 0": 0, "type 6": 6, "a type below 0": -1, "a type beyond a byte": 257} {
		add(what, packet.Packet{}, func(p *packet.Packet) { p.Type = kind })
	}
	for what, auth := range map[string]string{"a key of 9": "123456789", "a key of a nought": "\x00", "a key with a nought": "ab\x00c", "a key with a nought behind": "a\x00", "a nought and a key": "\x00a"} {
		add(what, hello(), func(p *packet.Packet) { p.Auth = auth })
		add(what+" of an Ack", ack(), func(p *packet.Packet) { p.Auth = auth })
	}
	for what, n := range map[string]int{" below 0": -1, " of 65536": 65536, " of 0": 0, " beyond": 1<<32 + 1} {
		add("an interval"+what, hello(), func(p *packet.Packet) { p.Hello.Interval = n })
		add("a dead"+what, hello(), func(p *packet.Packet) { p.Hello.Dead = n })
	}
	for what, n := range map[string]int{" below 0": -1, " of 256": 256, " beyond": 1 << 32} {
		add("a priority"+what, hello(), func(p *packet.Packet) { p.Hello.Priority = n })
		add("flags"+what, database(0), func(p *packet.Packet) { p.Flags = n })
		add("a key's type"+what, request(), func(p *packet.Packet) { p.Keys = []lsa.Key{key(1), {Type: n}} })
		add("a head's type"+what, database(0), func(p *packet.Packet) { p.Heads = []lsa.Header{head(1), {Key: lsa.Key{Type: n}}} })
		add("an ack's type"+what, ack(), func(p *packet.Packet) { p.Heads = []lsa.Header{{Key: lsa.Key{Type: n}}, head(1)} })
	}
	add("flags of 8", database(0), func(p *packet.Packet) { p.Flags = 8 })
	for what, h := range map[string]lsa.Header{"an age below 0": {Age: -1}, "an age of 65536": {Age: 65536}, "a count below 0": {Len: -1}, "a count of 65536": {Len: 65536},
		"a number too small": {Seq: -2147483649}, "a number too great": {Seq: 2147483648}} {
		add("a head of "+what, database(7), func(p *packet.Packet) { p.Heads = []lsa.Header{head(1), h} })
		add("an ack of "+what, ack(), func(p *packet.Packet) { p.Heads = []lsa.Header{h, head(1)} })
	}
	m["21 neighbors"] = hello(some(21, number)...)
	m["21 heads"] = database(0, some(21, head)...)
	m["21 heads of an Ack"] = ack(some(21, head)...)
	m["21 keys"] = request(some(21, key)...)
	m["21 lsas"] = update(some(21, summary)...)
	m["an lsa that can't be"] = update(summary(1), lsa.Lsa{})
	m["the first lsa can't be"] = update(router(41), summary(1))
	addOthers(m)
	return m
}

// addOthers adds packets that hold what their type doesn't tell.
func addOthers(m map[string]packet.Packet) {
	all := []packet.Packet{hello(), database(0), request(), update(), ack()}
	for what, a := range map[string]struct {
		told   []int
		change func(p *packet.Packet)
	}{
		"mask":         {[]int{packet.Hello}, func(p *packet.Packet) { p.Hello.Mask = 1 }},
		"interval":     {[]int{packet.Hello}, func(p *packet.Packet) { p.Hello.Interval = 1 }},
		"dead":         {[]int{packet.Hello}, func(p *packet.Packet) { p.Hello.Dead = 1 }},
		"priority":     {[]int{packet.Hello}, func(p *packet.Packet) { p.Hello.Priority = 1 }},
		"low priority": {[]int{packet.Hello}, func(p *packet.Packet) { p.Hello.Priority = -1 }},
		"dr":           {[]int{packet.Hello}, func(p *packet.Packet) { p.Hello.Dr = 1 }},
		"bdr":          {[]int{packet.Hello}, func(p *packet.Packet) { p.Hello.Bdr = 1 }},
		"neighbors":    {[]int{packet.Hello}, func(p *packet.Packet) { p.Hello.Neighbors = []uint32{0} }},
		"flags":        {[]int{packet.Database}, func(p *packet.Packet) { p.Flags = 1 }},
		"seq":          {[]int{packet.Database}, func(p *packet.Packet) { p.Seq = 1 }},
		"heads":        {[]int{packet.Database, packet.Ack}, func(p *packet.Packet) { p.Heads = []lsa.Header{{}} }},
		"keys":         {[]int{packet.Request}, func(p *packet.Packet) { p.Keys = []lsa.Key{{}} }},
		"lsas":         {[]int{packet.Update}, func(p *packet.Packet) { p.Lsas = []lsa.Lsa{summary(1)} }},
	} {
		for _, p := range all {
			if slices.Contains(a.told, p.Type) {
				continue
			}
			m[what+" of type "+string(rune('0'+p.Type))] = with(p, a.change)
		}
	}
}

// same tells whether two packets are the same in all that they hold, where a list of nothing is as none.
func same(a, b packet.Packet) bool { return reflect.DeepEqual(plain(a), plain(b)) }

func plain(p packet.Packet) packet.Packet {
	p.Hello.Neighbors = append([]uint32{}, p.Hello.Neighbors...)
	p.Heads = append([]lsa.Header{}, p.Heads...)
	p.Keys = append([]lsa.Key{}, p.Keys...)
	p.Lsas = append([]lsa.Lsa{}, p.Lsas...)
	for i, l := range p.Lsas {
		p.Lsas[i].Links = append([]lsa.Link{}, l.Links...)
		p.Lsas[i].Routers = append([]uint32{}, l.Routers...)
	}
	return p
}

func anyPacket(r *rand.Rand) packet.Packet {
	p := packet.Packet{Type: 1 + r.Intn(5), Router: r.Uint32(), Area: r.Uint32(), Auth: []string{"", "a", "key", "12345678", "\xFF\x01"}[r.Intn(5)]}
	n := r.Intn(21)
	if r.Intn(2) == 0 {
		n = r.Intn(3)
	}
	anyHead := func(int) lsa.Header {
		return lsa.Header{Age: r.Intn(65536), Key: key(r.Intn(256)), Seq: r.Intn(1<<32) - 1<<31, Sum: uint16(r.Intn(65536)), Len: r.Intn(65536)}
	}
	switch p.Type {
	case packet.Hello:
		p.Hello = packet.Greeting{Mask: r.Uint32(), Interval: 1 + r.Intn(65535), Dead: 1 + r.Intn(65535), Priority: r.Intn(256), Dr: r.Uint32(), Bdr: r.Uint32()}
		p.Hello.Neighbors = some(n, func(int) uint32 { return r.Uint32() })
	case packet.Database:
		p.Flags, p.Seq, p.Heads = r.Intn(8), r.Uint32(), some(n, anyHead)
	case packet.Request:
		p.Keys = some(n, func(int) lsa.Key { return key(r.Intn(256)) })
	case packet.Update:
		p.Lsas = some(n, func(int) lsa.Lsa {
			return []lsa.Lsa{summary(r.Intn(3601)), router(r.Intn(41)), network()}[r.Intn(3)]
		})
	default:
		p.Heads = some(n, anyHead)
	}
	return p
}

// bytesOf is a packet as the document lays it, by other means than the program's; its Lsas must be right ones.
func bytesOf(p packet.Packet) []byte {
	b := binary.BigEndian.AppendUint32([]byte{2, byte(p.Type), 0, 0}, p.Router)
	b = binary.BigEndian.AppendUint32(b, p.Area)
	b = append(b, 0, 0, 0, 0)
	if len(p.Auth) > 0 {
		b[15] = 1
	}
	b = append(b, (p.Auth + strings.Repeat("\x00", 8))[:8]...)
	switch p.Type {
	case packet.Hello:
		b = binary.BigEndian.AppendUint32(b, p.Hello.Mask)
		b = binary.BigEndian.AppendUint16(b, uint16(p.Hello.Interval))
		b = append(b, 2, byte(p.Hello.Priority))
		for _, n := range append([]uint32{uint32(p.Hello.Dead), p.Hello.Dr, p.Hello.Bdr}, p.Hello.Neighbors...) {
			b = binary.BigEndian.AppendUint32(b, n)
		}
	case packet.Database:
		b = binary.BigEndian.AppendUint32(append(b, 0x05, 0xDC, 2, byte(p.Flags)), p.Seq)
		b = appendHeads(b, p.Heads)
	case packet.Request:
		for _, k := range p.Keys {
			for _, n := range []uint32{uint32(k.Type), k.Id, k.Adv} {
				b = binary.BigEndian.AppendUint32(b, n)
			}
		}
	case packet.Update:
		b = binary.BigEndian.AppendUint32(b, uint32(len(p.Lsas)))
		for _, l := range p.Lsas {
			one, _ := lsa.Put(l)
			b = append(b, one...)
		}
	case packet.Ack:
		b = appendHeads(b, p.Heads)
	}
	return sealed(b)
}

func appendHeads(b []byte, heads []lsa.Header) []byte {
	for _, h := range heads {
		b = append(b, lsa.PutHeader(h)...)
	}
	return b
}

// sealed is bytes with their count and their sum laid in.
func sealed(b []byte) []byte {
	b = slices.Clone(b)
	binary.BigEndian.PutUint16(b[2:], uint16(len(b)))
	return summed(b)
}

// summed is bytes with their sum laid in.
func summed(b []byte) []byte {
	b = slices.Clone(b)
	binary.BigEndian.PutUint16(b[12:], internet(b))
	return b
}

// internet is the sum that a packet's bytes should have: each byte counts by its place.
func internet(b []byte) uint16 {
	sum := 0
	for i, c := range b {
		switch {
		case i == 12 || i == 13 || i >= 16 && i < 24:
			continue
		case i%2 == 0:
			sum += int(c) << 8
		default:
			sum += int(c)
		}
	}
	for sum > 0xFFFF {
		sum -= 0xFFFF
	}
	return ^uint16(sum)
}

func hexed(t *testing.T, s string) []byte {
	t.Helper()
	b, err := hex.DecodeString(strings.ReplaceAll(s, " ", ""))
	if err != nil {
		t.Fatal(err)
	}
	return b
}

func wantGot(t *testing.T, what string, b []byte, want packet.Packet) {
	t.Helper()
	if p, e := packet.Get(b, want.Auth); e != api.OK || !same(p, want) {
		t.Errorf("%s: Get: error %d, %v, want %v", what, e, p, want)
	}
}

func wantRefused(t *testing.T, what string, b []byte, auth string, want api.Errno) {
	t.Helper()
	if p, e := packet.Get(b, auth); e != want || !same(p, packet.Packet{}) {
		t.Errorf("%s: Get(%x, %q): error %d, %v, want error %d", what, b, auth, e, p, want)
	}
}
