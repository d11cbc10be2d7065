package box

import (
	"waystone/api"
	"waystone/conf"
	"waystone/wire"
)

// Kinds of entries.
const (
	committed = 1
	trial     = 2 // committed to be confirmed
	confirmed = 3
	goneBack  = 4
)

// waitSize is how many bytes the ticks of a trial take.
const waitSize = 2

// entry is what the journal keeps of what was done: the configuration (of confirmed none), and, of a trial, in how many ticks it goes back.
type entry struct {
	kind int
	wait int
	conf conf.Conf
}

// bytes tells the entry as the journal keeps it. What runs is right, so it can be put.
func (x entry) bytes() []byte {
	b := []byte{byte(x.kind)}
	if x.kind == trial {
		b = wire.Lay16(b, uint16(x.wait))
	}
	text, _ := conf.Put(x.conf)
	return append(b, text...)
}

// readEntry tells the entry that bytes are, if they are one's.
func readEntry(b []byte) (entry, bool) {
	if len(b) == 0 {
		return entry{}, false
	}
	x, rest := entry{kind: int(b[0])}, b[1:]
	switch x.kind {
	case confirmed:
		return x, len(rest) == 0
	case trial:
		if len(rest) < waitSize {
			return entry{}, false
		}
		x.wait, rest = int(wire.Read(rest[:waitSize])), rest[waitSize:]
		// no command is read as one of 0 ticks
		if x.wait == 0 {
			return entry{}, false
		}
	case committed, goneBack:
	default:
		return entry{}, false
	}
	c, e := conf.Get(rest)
	x.conf = c
	return x, e == api.OK
}
