package box

import (
	"waystone/api"
	"waystone/conf"
	"waystone/diff"
	"waystone/engine"
	"waystone/parse"
	"waystone/rules"
)

// done is what is told of a command that was done, and has nothing else to tell.
const done = "ok"

// Do does a command, and tells what is told of it, and what is sent.
func (b *Box) Do(text string) (string, []engine.Out, api.Errno) {
	if e := b.state(); e != api.OK {
		return "", nil, e
	}
	c, e := parse.Read(text)
	if e != api.OK {
		return "", nil, e
	}
	switch c.What {
	case parse.Show:
		return conf.Text(b.candidate), nil, api.OK
	case parse.Compare:
		return b.compare(), nil, api.OK
	case parse.Check:
		return b.check(), nil, api.OK
	case parse.Commit:
		return b.commit(entry{kind: committed, conf: b.candidate})
	case parse.Confirmed:
		return b.commit(entry{kind: trial, wait: c.N, conf: b.candidate})
	case parse.Confirm:
		return b.confirm()
	}
	return b.edit(c)
}

// edit does a command by which the candidate is another one.
func (b *Box) edit(c parse.Command) (string, []engine.Out, api.Errno) {
	edited, e := b.edited(c)
	if e != api.OK {
		return "", nil, e
	}
	b.candidate = edited
	return done, nil, api.OK
}

func (b *Box) edited(c parse.Command) (conf.Conf, api.Errno) {
	switch l := c.Line; c.What {
	case parse.Set:
		return conf.Set(b.candidate, l)
	case parse.Delete:
		return conf.Delete(b.candidate, l.Head, l.Name, l.Leaf)
	}
	return b.Archive(c.N)
}

// compare tells what a commit would change.
func (b *Box) compare() string {
	changes, _ := diff.Lines(b.running, b.candidate)
	return diff.Text(changes)
}

// check tells what stands against a commit.
func (b *Box) check() string {
	if wrong := b.wrong(); wrong != "" {
		return wrong
	}
	return done
}

// wrong tells the candidate's faults; without any it is no text.
func (b *Box) wrong() string {
	faults, _ := rules.Check(b.candidate)
	return rules.Text(faults)
}

// commit lets the candidate run, if nothing is wrong with it.
func (b *Box) commit(x entry) (string, []engine.Out, api.Errno) {
	if wrong := b.wrong(); wrong != "" {
		return wrong, nil, api.ErrRule
	}
	return b.told(x)
}

// confirm lets the commit that waits stay.
func (b *Box) confirm() (string, []engine.Out, api.Errno) {
	if b.left == 0 {
		return "", nil, api.ErrState
	}
	return b.told(entry{kind: confirmed})
}

// told does an entry as a command's: with an error nothing is told.
func (b *Box) told(x entry) (string, []engine.Out, api.Errno) {
	sent, e := b.do(x)
	if e != api.OK {
		return "", nil, e
	}
	return done, sent, api.OK
}
