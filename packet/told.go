package packet

import (
	"waystone/api"
	"waystone/lsa"
	"waystone/wire"
)

// How what a packet tells is laid.
const (
	mtu       = 0x05DC // a Database packet's longest, which nothing here hangs on
	options   = 2
	greetSize = 20
	baseSize  = 8 // of a Database packet, ahead of its heads
	countSize = 4
	keySize   = 12
	lsaSize   = 20 // of an Lsa's header
)

// tell tells the bytes behind a packet's head; false: an Lsa can't be put.
func tell(p Packet) ([]byte, bool) {
	switch p.Type {
	case Hello:
		return layGreeting(p.Hello), true
	case Database:
		b := append(wire.Lay16(nil, mtu), options, byte(p.Flags))
		return layHeads(wire.Lay32(b, p.Seq), p.Heads), true
	case Request:
		return layKeys(p.Keys), true
	case Update:
		return layLsas(p.Lsas)
	}
	return layHeads(nil, p.Heads), true
}

func layGreeting(g Greeting) []byte {
	b := wire.Lay16(wire.Lay32(nil, g.Mask), uint16(g.Interval))
	b = append(b, options, byte(g.Priority))
	b = wire.LayAll(b, []uint32{uint32(g.Dead), g.Dr, g.Bdr})
	return wire.LayAll(b, g.Neighbors)
}

func layHeads(b []byte, heads []lsa.Header) []byte {
	for _, h := range heads {
		b = append(b, lsa.PutHeader(h)...)
	}
	return b
}

func layKeys(keys []lsa.Key) []byte {
	var b []byte
	for _, k := range keys {
		b = wire.LayAll(b, []uint32{uint32(k.Type), k.Id, k.Adv})
	}
	return b
}

func layLsas(lsas []lsa.Lsa) ([]byte, bool) {
	b := wire.Lay32(nil, uint32(len(lsas)))
	for _, l := range lsas {
		one, e := lsa.Put(l)
		if e != api.OK {
			return nil, false
		}
		b = append(b, one...)
	}
	return b, true
}

// hear tells p with what b tells, as far as it can be read: but of an Update, whether it is as it would be told is seen by telling it again.
func hear(p Packet, b []byte) (Packet, api.Errno) {
	e := api.OK
	switch {
	case p.Type == Hello && len(b) >= greetSize:
		p.Hello = readGreeting(b)
	case p.Type == Database && len(b) >= baseSize:
		p.Flags, p.Seq, p.Heads = int(b[3]), wire.Read(b[4:baseSize]), readHeads(b[baseSize:])
	case p.Type == Request:
		p.Keys = readKeys(b)
	case p.Type == Update:
		p.Lsas, e = readLsas(b)
	case p.Type == Ack:
		p.Heads = readHeads(b)
	}
	return p, e
}

func readGreeting(b []byte) Greeting {
	return Greeting{
		Mask:      wire.Read(b[:4]),
		Interval:  int(wire.Read(b[4:6])),
		Priority:  int(b[7]),
		Dead:      int(wire.Read(b[8:12])),
		Dr:        wire.Read(b[12:16]),
		Bdr:       wire.Read(b[16:greetSize]),
		Neighbors: wire.ReadAll(b[greetSize:]),
	}
}

func readHeads(b []byte) []lsa.Header {
	var heads []lsa.Header
	for ; len(b) >= lsaSize; b = b[lsaSize:] {
		h, _ := lsa.Head(b)
		heads = append(heads, h)
	}
	return heads
}

func readKeys(b []byte) []lsa.Key {
	var keys []lsa.Key
	for ; len(b) >= keySize; b = b[keySize:] {
		keys = append(keys, lsa.Key{Type: int(wire.Read(b[:4])), Id: wire.Read(b[4:8]), Adv: wire.Read(b[8:keySize])})
	}
	return keys
}

// readLsas tells an Update's Lsas; the first that isn't right tells its error.
func readLsas(b []byte) ([]lsa.Lsa, api.Errno) {
	if len(b) < countSize || wire.Read(b[:countSize]) > maxList {
		return nil, api.ErrForm
	}
	var lsas []lsa.Lsa
	rest := b[countSize:]
	for range wire.Read(b[:countSize]) {
		h, e := lsa.Head(rest)
		if e != api.OK || h.Len < lsaSize || h.Len > len(rest) {
			return nil, api.ErrForm
		}
		l, e := lsa.Get(rest[:h.Len])
		if e != api.OK {
			return nil, e
		}
		lsas, rest = append(lsas, l), rest[h.Len:]
	}
	return lsas, api.OK
}
