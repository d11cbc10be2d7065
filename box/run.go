package box

import (
	"slices"

	"waystone/api"
	"waystone/conf"
	"waystone/engine"
	"waystone/plan"
)

// do writes an entry, and then does it: power that goes ahead of its end finds it in the journal, or doesn't.
func (b *Box) do(x entry) ([]engine.Out, api.Errno) {
	if e := b.write(x); e != api.OK {
		return nil, e
	}
	return b.follow(x)
}

// write appends an entry to the journal, which is made shorter once, if there is no room.
func (b *Box) write(x entry) api.Errno {
	text := x.bytes()
	e := b.journal.Append(text)
	if e == api.ErrFull {
		e = b.journal.Compact(b.kept())
		if e == api.OK {
			e = b.journal.Append(text)
		}
	}
	b.ended = e == api.ErrStop
	return e
}

// kept tells the fewest entries that make the box as it stands.
func (b *Box) kept() [][]byte {
	if len(b.archive) == 0 {
		return nil
	}
	ahead := b.archive
	if len(ahead) < api.MaxArchive {
		// each box begins with it
		ahead = ahead[:len(ahead)-1]
	}
	var l [][]byte
	for _, c := range slices.Backward(ahead) {
		l = append(l, entry{kind: committed, conf: c}.bytes())
	}
	runs := entry{kind: committed, conf: b.running}
	if b.left > 0 {
		runs.kind, runs.wait = trial, b.wait
	}
	return append(l, runs.bytes())
}

// follow does what an entry tells; what it tells of waiting holds in place of what was told ahead of it.
func (b *Box) follow(x entry) ([]engine.Out, api.Errno) {
	var sent []engine.Out
	if x.kind != confirmed {
		actions, _ := plan.Make(b.running, x.conf)
		out, e := b.engine.Change(x.conf, plan.Begins(actions))
		if e != api.OK {
			return nil, e
		}
		sent = out
		older := b.archive[:min(len(b.archive), api.MaxArchive-1)]
		b.archive = append([]conf.Conf{b.running}, older...)
		b.running = x.conf
	}
	b.left, b.wait = x.wait, x.wait
	return sent, api.OK
}

// pass lets a commit that waits wait a tick less; at its last one it goes back. If it can't, that tick is still to come.
func (b *Box) pass() ([]engine.Out, api.Errno) {
	if b.left == 1 {
		return b.do(entry{kind: goneBack, conf: b.archive[0]})
	}
	b.left = max(b.left-1, 0)
	return nil, api.OK
}
