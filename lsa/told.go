package lsa

import "waystone/wire"

// tell tells the bytes behind the header.
func tell(l Lsa) []byte {
	switch l.Key.Type {
	case Router:
		return layLinks(l.Links)
	case Network:
		return wire.LayAll(wire.Lay32(nil, l.Mask), l.Routers)
	}
	// a cost's highest byte is the nought ahead of it
	return wire.Lay32(wire.Lay32(nil, l.Mask), uint32(l.Cost))
}

func layLinks(links []Link) []byte {
	b := wire.Lay32(nil, uint32(len(links)))
	for _, l := range links {
		b = wire.LayAll(b, []uint32{l.Id, l.Data})
		b = wire.Lay16(append(b, byte(l.Type), 0), uint16(l.Cost))
	}
	return b
}

// hear tells l with what b tells, as far as it can be read: whether it is as it would be told is seen by telling it again.
func hear(l Lsa, b []byte) Lsa {
	if len(b) < leadSize {
		return l
	}
	switch l.Key.Type {
	case Router:
		l.Links = readLinks(b[leadSize:])
	case Network:
		l.Mask, l.Routers = wire.Read(b[:leadSize]), wire.ReadAll(b[leadSize:])
	case Summary:
		l.Mask, l.Cost = wire.Read(b[:leadSize]), int(wire.Read(b[leadSize:]))
	}
	return l
}

func readLinks(b []byte) []Link {
	var links []Link
	for ; len(b) >= linkSize; b = b[linkSize:] {
		links = append(links, Link{
			Id:   wire.Read(b[:4]),
			Data: wire.Read(b[4:8]),
			Type: int(b[8]),
			Cost: int(wire.Read(b[10:linkSize])),
		})
	}
	return links
}
