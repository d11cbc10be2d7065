package parse

import (
	"waystone/api"
	"waystone/conf"
	"waystone/lex"
	"waystone/schema"
)

// reader is a text that is read: the words ahead, and what the ones behind have set.
type reader struct {
	words []string
	conf  conf.Conf
	full  bool
}

// Text tells the configuration that a whole text is.
func Text(text string) (conf.Conf, api.Errno) {
	words, _, e := lex.Words(text)
	if e != api.OK {
		return nil, api.ErrForm
	}
	r := &reader{words: words}
	for len(r.words) > 0 {
		if !r.part() {
			return nil, api.ErrForm
		}
	}
	if r.full {
		return nil, api.ErrFull
	}
	return r.conf, api.OK
}

// part reads a line of Top, or all lines of a name; false: neither stands there.
func (r *reader) part() bool {
	if head, ok := headOf(r.words[0]); ok {
		return r.block(head)
	}
	return r.line(api.Top, "")
}

// block reads a name's lines, and the signs about them.
func (r *reader) block(head int) bool {
	if len(r.words) < 3 || !schema.Named(head, r.words[1]) || r.words[2] != "{" {
		return false
	}
	name := r.words[1]
	r.words = r.words[3:]
	for len(r.words) > 0 && r.words[0] != "}" {
		if !r.line(head, name) {
			return false
		}
	}
	if len(r.words) == 0 {
		return false
	}
	r.words = r.words[1:]
	return true
}

// line reads a leaf, its value, and the sign behind it.
func (r *reader) line(head int, name string) bool {
	if len(r.words) < 3 || r.words[2] != ";" {
		return false
	}
	l := conf.Line{Head: head, Name: name, Leaf: r.words[0], Value: r.words[1]}
	if !rightValue(l) {
		return false
	}
	r.words = r.words[3:]
	r.set(l)
	return true
}

// set goes on when there is no room: whether the text is one at all is told first.
func (r *reader) set(l conf.Line) {
	if r.full {
		return
	}
	c, e := conf.Set(r.conf, l)
	if e != api.OK {
		r.full = true
		return
	}
	r.conf = c
}
