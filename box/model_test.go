package box_test

import (
	"slices"
	"strings"

	"waystone/api"
	"waystone/conf"
	"waystone/diff"
	"waystone/parse"
	"waystone/rules"
)

// model is a box as a plain list of configurations, and of what is written of them.
type model struct {
	ran       []conf.Conf // from the nothing of the beginning on
	candidate conf.Conf
	left      int
	wait      int
	half      int
	written   []string
}

func newModel(half int) *model {
	return &model{ran: []conf.Conf{nil}, half: half}
}

func (m *model) clone() *model {
	x := *m
	x.ran, x.written = slices.Clone(m.ran), slices.Clone(m.written)
	return &x
}

func (m *model) running() conf.Conf { return m.ran[len(m.ran)-1] }

// runs is what runs, and what ran ahead of it.
func (m *model) runs() string {
	var l []string
	for n := range min(len(m.ran), 6) {
		l = append(l, line(m.ran[len(m.ran)-1-n]))
	}
	return strings.Join(l, " | ")
}

// do does a command, or a tick, and tells what is told.
func (m *model) do(command string) (string, api.Errno) {
	x, e := parse.Read(command)
	if command == "tick" {
		return "", m.tick()
	}
	if e != api.OK {
		return "", e
	}
	switch strings.Fields(command)[0] {
	case "show":
		return conf.Text(m.candidate), api.OK
	case "compare":
		l, _ := diff.Lines(m.running(), m.candidate)
		return diff.Text(l), api.OK
	case "check":
		if l, _ := rules.Check(m.candidate); len(l) > 0 {
			return rules.Text(l), api.OK
		}
		return "ok", api.OK
	case "commit":
		return m.commit(put1(m.candidate), 0)
	case "commit-confirmed":
		return m.commit(put2(x.N, m.candidate), x.N)
	case "confirm":
		return m.confirm()
	}
	return m.edit(x)
}

func (m *model) edit(x parse.Command) (string, api.Errno) {
	c, e := m.candidate, api.ErrNone
	switch x.What {
	case parse.Set:
		c, e = conf.Set(c, x.Line)
	case parse.Delete:
		c, e = conf.Delete(c, x.Line.Head, x.Line.Name, x.Line.Leaf)
	default:
		if x.N < len(m.ran) {
			c, e = m.ran[len(m.ran)-1-x.N], api.OK
		}
	}
	if e != api.OK {
		return "", e
	}
	m.candidate = c
	return "ok", api.OK
}

func (m *model) commit(entry string, wait int) (string, api.Errno) {
	if l, _ := rules.Check(m.candidate); len(l) > 0 {
		return rules.Text(l), api.ErrRule
	}
	if !m.write(entry) {
		return "", api.ErrFull
	}
	m.ran = append(m.ran, m.candidate)
	m.left, m.wait = wait, wait
	return "ok", api.OK
}

func (m *model) confirm() (string, api.Errno) {
	if m.left == 0 {
		return "", api.ErrState
	}
	if !m.write("\x03") {
		return "", api.ErrFull
	}
	m.left = 0
	return "ok", api.OK
}

// tick lets time go by, but for what the Engine does then.
func (m *model) tick() api.Errno {
	if m.left > 1 {
		m.left--
		return api.OK
	}
	if m.left == 0 {
		return api.OK
	}
	before := m.ran[len(m.ran)-2]
	if !m.write(put4(before)) {
		return api.ErrFull
	}
	m.ran = append(m.ran, before)
	m.left = 0
	return api.OK
}

// crash is power that goes and comes, and the box that is opened then.
func (m *model) crash() {
	m.left = min(m.left, 1)
	m.tick()
	m.candidate = m.running()
}

// write writes an entry, if there is room, perhaps in place of what isn't needed any more.
func (m *model) write(entry string) bool {
	if sectors(m.written)+sectors([]string{entry}) > m.half {
		if kept := m.kept(); sectors(kept) <= m.half {
			m.written = kept
		}
	}
	if sectors(m.written)+sectors([]string{entry}) > m.half {
		return false
	}
	m.written = append(m.written, entry)
	return true
}

// kept is the last six that ran, of which the nothing of the beginning is one if there are just six.
func (m *model) kept() []string {
	l := m.ran[max(len(m.ran)-6, 0):]
	if len(l) < 6 {
		l = l[1:]
	}
	var kept []string
	for _, c := range l {
		kept = append(kept, put1(c))
	}
	if m.left > 0 {
		kept[len(kept)-1] = put2(m.wait, m.running())
	}
	return kept
}

func sectors(l []string) int {
	n := 0
	for _, s := range l {
		n += (len(s) + 19 + 63) / 64
	}
	return n
}

// texts are entries as texts, as each byte of them tells.
func texts(l [][]byte) []string {
	var all []string
	for _, b := range l {
		all = append(all, string(b))
	}
	return all
}
