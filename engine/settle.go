package engine

import (
	"slices"

	"waystone/adv"
	"waystone/api"
	"waystone/lsa"
	"waystone/sync"
)

// settle does what follows from how neighbors stand now.
func (e *Engine) settle() {
	for _, f := range e.faces {
		if f.elects() {
			f.elect(e.id)
		}
		for _, n := range f.known {
			e.step(f, n, sync.Event{What: sync.Adjacent, Yes: f.adjacent(n)})
		}
	}
	e.tell()
}

// tell brings what we tell into the Dbs, and ends what we don't tell any more.
func (e *Engine) tell() {
	told := e.own()
	for _, o := range told {
		there, ok := e.Find(o.Area, o.Lsa.Key)
		if !ok || !lsa.Alike(there, o.Lsa) || there.Age >= api.RefreshAge {
			e.tellAnew(o)
		}
	}
	for _, area := range e.areas() {
		for _, h := range e.Heads(area) {
			if h.Key.Adv == e.id && !isTold(told, area, h.Key) {
				e.end(area, h.Key)
			}
		}
	}
}

// own tells what we tell as our interfaces stand, which can't be wrong.
func (e *Engine) own() []adv.Own {
	told, _ := adv.All(e.conf, e.Faces())
	return told
}

func isTold(told []adv.Own, area uint32, k lsa.Key) bool {
	return slices.ContainsFunc(told, func(o adv.Own) bool { return o.Area == area && o.Lsa.Key == k })
}

// tellAnew tells one of ours by the number behind the one that is there. Behind the last number there is none: what has that must end everywhere, and be told from the first one on when it is gone.
func (e *Engine) tellAnew(o adv.Own) {
	l := o.Lsa
	if there, ok := e.Find(o.Area, l.Key); ok {
		if there.Seq == api.LastSeq {
			e.end(o.Area, l.Key)
			return
		}
		l.Seq = there.Seq + 1
	}
	e.put(o.Area, l)
}

// end lets one of ours come to its end; one that has isn't newer than itself, so it is told just once.
func (e *Engine) end(area uint32, k lsa.Key) {
	l, _ := e.Find(area, k)
	l.Age = api.MaxAge
	e.put(area, l)
}

// put brings one of ours into an area's Db, and floods it; one for which there is no room is tried again when we settle again.
func (e *Engine) put(area uint32, l lsa.Lsa) {
	if taken, _ := e.dbs[area].Put(l); taken {
		e.flood(area, []lsa.Key{l.Key}, nil)
	}
}
