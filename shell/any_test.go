package shell_test

import (
	"cmp"
	"fmt"
	"math/rand"
	"regexp"
	"slices"
	"strings"
	"testing"

	"waystone/adv"
	"waystone/api"
	"waystone/box"
	"waystone/conf"
	"waystone/diff"
	"waystone/disk"
	"waystone/engine"
	"waystone/parse"
	"waystone/rules"
	"waystone/schema"
	"waystone/shell"
)

// world is both routers, told by other means than the program's.
type world struct {
	disks [2]*disk.Disk
	boxes [2]*box.Box
}

func newWorld() *world {
	w := &world{}
	for i := range 2 {
		w.disks[i], _ = disk.New(512)
		w.boxes[i], _ = box.Begin(w.disks[i])
	}
	return w
}

var (
	commandLine = regexp.MustCompile(`(?s)^([ab]) (.+)$`)
	tickLine    = regexp.MustCompile(`^tick ([1-9][0-9]{0,2})$`)
	crashLine   = regexp.MustCompile(`^crash ([ab])$`)
)

// line is what is told of a line.
func (w *world) line(line string) string {
	if m := commandLine.FindStringSubmatch(line); m != nil {
		i := strings.Index("ab", m[1])
		told, out, e := w.boxes[i].Do(m[2])
		w.carry(i, out)
		var l []string
		if e != api.OK {
			l = append(l, fmt.Sprintf("error %d", e))
		}
		if e == api.OK || told != "" {
			l = append(l, strings.TrimRight(told, "\n"))
		}
		return strings.Join(l, "\n")
	}
	if m := tickLine.FindStringSubmatch(line); m != nil {
		var n int
		fmt.Sscan(m[1], &n)
		for range n {
			for i := range 2 {
				out, _ := w.boxes[i].Tick()
				w.carry(i, out)
			}
		}
		return "ok"
	}
	if m := crashLine.FindStringSubmatch(line); m != nil {
		i := strings.Index("ab", m[1])
		w.disks[i].Crash(nil)
		w.boxes[i], _ = box.Open(w.disks[i])
		return "ok"
	}
	if line == "show" {
		return w.show()
	}
	return "?"
}

func (w *world) show() string {
	told := ""
	for i, b := range w.boxes {
		for _, s := range b.Engine().Seen() {
			told += fmt.Sprintf("\n%c %s %d.%d.%d.%d %d", "ab"[i], s.Face, s.Addr>>24, s.Addr>>16&255, s.Addr>>8&255, s.Addr&255, s.State)
		}
	}
	return cmp.Or(strings.TrimPrefix(told, "\n"), "nobody")
}

// carry brings what is sent: on top lies what goes next, and what is sent by it comes on top of that.
func (w *world) carry(i int, out []engine.Out) {
	type onWay struct {
		from int
		out  engine.Out
	}
	var way []onWay
	lay := func(i int, out []engine.Out) {
		for _, o := range slices.Backward(out) {
			way = append(way, onWay{i, o})
		}
	}
	for lay(i, out); len(way) > 0; {
		x := way[len(way)-1]
		way = way[:len(way)-1]
		from, here := address(w.boxes[x.from], x.out.Face)
		to, there := address(w.boxes[1-x.from], x.out.Face)
		if here && there && (x.out.To == 0 || x.out.To == to) {
			more, _ := w.boxes[1-x.from].Take(x.out.Face, from, x.out.Text)
			lay(1-x.from, more)
		}
	}
}

// address is an interface's, if it is there.
func address(b *box.Box, face string) (uint32, bool) {
	if b == nil || !slices.Contains(conf.Names(b.Running(), api.Interface), face) {
		return 0, false
	}
	n, _, ok := schema.Net(conf.Value(b.Running(), api.Interface, face, "address"))
	s, _ := adv.Settings(b.Running(), face)
	return n, ok && s.Addr == n
}

// anyEdit is a command by which a router on networks e, f and g is perhaps another one.
func anyEdit(r *rand.Rand, i int) string {
	j := r.Intn(3)
	name := string("efg"[j])
	face := "set interface " + name + " "
	switch r.Intn(14) {
	case 0:
		return some(r, "set router-id 0.0.0.1", "set router-id 0.0.0.2", "set router-id 0.0.0.3", "delete router-id")
	case 1:
		return some(r, "delete interface "+name, "delete interface "+name+" "+some(r, "cost", "auth", "network", "priority"))
	case 2:
		return some(r, "set area 0.0.0.1 type stub", "delete area 0.0.0.1", "set area 0.0.0.0 cost "+some(r, "1", "2"), "set area 0.0.0.0 type stub")
	case 3:
		return face + some(r, "auth a", "hello 2", "area 0.0.0.1", "area 0.0.0.0", "dead 3")
	case 4, 5:
		return face + some(r, "cost ", "priority ", "retransmit ", "priority ") + some(r, "0", "1", "2", "3")
	case 6:
		return face + "network " + some(r, "point-to-point", "broadcast")
	case 7:
		return face + "address " + some(r, fmt.Sprintf("10.0.%d.%d/24", j, i+1), fmt.Sprintf("10.0.%d.%d/24", j, i+3), fmt.Sprintf("10.0.%d.9/24", j), "0.0.0.0/24", fmt.Sprintf("10.0.%d.%d/30", j, i+1))
	}
	return some(r, "rollback ", "rollback ", "x") + fmt.Sprint(r.Intn(4))
}

// anyLine is a line, most often one by which something is done.
func anyLine(r *rand.Rand) string {
	i := r.Intn(2)
	who := "ab"[i : i+1]
	switch k := r.Intn(100); {
	case k < 30:
		return who + " " + anyEdit(r, i)
	case k < 45:
		return who + " " + some(r, "commit", "commit", "commit-confirmed "+fmt.Sprint(1+r.Intn(5)))
	case k < 50:
		return who + " " + some(r, "confirm", "show", "check", "compare", " ", "what", "")
	case k < 53:
		return "crash " + some(r, who, who, who, "c", "")
	case k < 56:
		return some(r, "", "a", "b", "tick", "tick 0", "tick 1000", "show ", "Show", "\x00", "tick 2 ")
	case k < 80:
		return "tick " + some(r, "1", "1", "2", "3", "5", "8")
	}
	return "show"
}

// P19.1, P1, P2, P4 to P6: whatever is done, all is told as two boxes tell it between which all goes by other means.
func TestAnyLines(t *testing.T) {
	r := rand.New(rand.NewSource(1901))
	states := map[byte]int{}
	for range 30 {
		w := newWorld()
		names := [][]string{{"e"}, {"e", "f"}, {"e", "f", "g"}}[r.Intn(3)]
		text := router(0, names...) + some(r, "", "tick 2\n") + router(1, names...)
		for range 150 {
			text += anyLine(r) + "\n"
		}
		got := shell.Run(text)
		for _, line := range strings.Split(strings.TrimSuffix(text, "\n"), "\n") {
			want := w.line(line) + "\n"
			rest, ok := strings.CutPrefix(got, want)
			if !ok {
				t.Fatalf("%q: %q, want %q, in\n%s", line, got[:min(len(got), len(want)+9)], want, text)
			}
			got = rest
			if line == "show" {
				for _, s := range strings.Split(strings.TrimSpace(want), "\n") {
					states[s[len(s)-1]]++
				}
			}
		}
		if got != "" {
			t.Errorf("%q is told behind all lines", got)
		}
	}
	for _, state := range "1236y" {
		if states[byte(state)] < 20 {
			t.Errorf("state %c was seldom seen: %v", state, states)
		}
	}
}

// P1, P19.1: of all texts; of each line something is told.
func TestAnyBytes(t *testing.T) {
	r := rand.New(rand.NewSource(1902))
	for range 3000 {
		var b strings.Builder
		for range r.Intn(30) {
			b.WriteString(some(r, "a", "b", " ", " ", "\n", "\n", "tick", "crash", "show", "set", "1", "e", "interface", "cost", "{", "\x00", "\xff", "\r", "commit", "é"))
		}
		text := b.String()
		w, want := newWorld(), ""
		for _, line := range strings.SplitAfter(text, "\n") {
			if line != "" {
				want += w.line(strings.TrimSuffix(line, "\n")) + "\n"
			}
		}
		wantTold(t, text, want)
	}
}

// plain is a router's configurations as a plain list.
type plain struct {
	candidate conf.Conf
	ran       []conf.Conf // what runs is the last one
	left      int
}

// command is what is told of a command.
func (p *plain) command(text string) string {
	c, e := parse.Read(text)
	if e != api.OK {
		return fmt.Sprint("error ", int(e))
	}
	runs := p.ran[len(p.ran)-1]
	next, told := p.candidate, ""
	switch c.What {
	case parse.Set:
		next, e = conf.Set(p.candidate, c.Line)
	case parse.Delete:
		next, e = conf.Delete(p.candidate, c.Line.Head, c.Line.Name, c.Line.Leaf)
	case parse.Rollback:
		if c.N > min(len(p.ran)-1, api.MaxArchive) {
			return "error 6"
		}
		next = p.ran[len(p.ran)-1-c.N]
	case parse.Show:
		return strings.TrimRight(conf.Text(p.candidate), "\n")
	case parse.Compare:
		l, _ := diff.Lines(runs, p.candidate)
		return strings.TrimRight(diff.Text(l), "\n")
	case parse.Confirm:
		if p.left == 0 {
			return "error 11"
		}
		p.left = 0
	default:
		l, _ := rules.Check(p.candidate)
		told = strings.TrimRight(rules.Text(l), "\n")
		if told != "" && c.What != parse.Check {
			told = "error 7\n" + told
		} else if c.What != parse.Check {
			p.ran, p.left = append(p.ran, p.candidate), c.N
		}
	}
	if e != api.OK {
		return fmt.Sprint("error ", int(e))
	}
	p.candidate = next
	return cmp.Or(told, "ok")
}

// back is what a tick, or a crash, does where a commit waits.
func (p *plain) back() {
	p.ran = append(p.ran, p.ran[len(p.ran)-2])
	p.left = 0
}

// lists are both routers'.
type lists [2]*plain

// line is what is told of a line that isn't show.
func (l lists) line(line string) string {
	who, rest, _ := strings.Cut(line, " ")
	switch {
	case commandLine.MatchString(line):
		return l[strings.Index("ab", who)].command(rest)
	case tickLine.MatchString(line):
		for range int(rest[0] - '0') {
			l[0].tick()
			l[1].tick()
		}
		return "ok"
	case crashLine.MatchString(line):
		p := l[strings.Index("ab", rest)]
		if p.left > 0 {
			p.back()
		}
		p.candidate = p.ran[len(p.ran)-1]
		return "ok"
	}
	return "?"
}

func (p *plain) tick() {
	if p.left--; p.left == 0 {
		p.back()
	}
	p.left = max(p.left, 0)
}

// P2, P3, P6, P19.1: what is told of commands is as of a plain list of configurations.
func TestPlainLists(t *testing.T) {
	r := rand.New(rand.NewSource(1903))
	commits := 0
	for range 15 {
		l := lists{{ran: make([]conf.Conf, 1)}, {ran: make([]conf.Conf, 1)}}
		all := strings.Split(strings.TrimSpace(both("e", "f")), "\n")
		for range 200 {
			all = append(all, anyLine(r))
		}
		text, want := "", ""
		for _, line := range all {
			if line != "show" {
				text, want = text+line+"\n", want+l.line(line)+"\n"
			}
		}
		wantTold(t, text, want)
		commits += len(l[0].ran) + len(l[1].ran)
	}
	if commits < 225 {
		t.Error("few commits:", commits)
	}
}
