package box_test

import (
	"bytes"
	"fmt"
	"math/rand"
	"slices"
	"strings"
	"testing"

	"waystone/api"
	"waystone/box"
	"waystone/conf"
	"waystone/disk"
	"waystone/engine"
	"waystone/journal"
	"waystone/parse"
	"waystone/schema"
)

func newDisk(t *testing.T, sectors int) *disk.Disk {
	t.Helper()
	d, e := disk.New(sectors)
	wantErrno(t, "disk.New", e, api.OK)
	return d
}

// begun is a box on a new disk, for which commands were done, parted by ";".
func begun(t *testing.T, sectors int, commands string) (*disk.Disk, *box.Box) {
	t.Helper()
	d := newDisk(t, sectors)
	b, e := box.Begin(d)
	if e != api.OK || b == nil {
		t.Fatal("Begin: error", e)
	}
	dos(t, b, commands)
	return d, b
}

func opened(t *testing.T, d *disk.Disk) *box.Box {
	t.Helper()
	b, e := box.Open(d)
	if e != api.OK || b == nil {
		t.Fatal("Open: error", e)
	}
	return b
}

// want does a command, and asks for what is told.
func want(t *testing.T, b *box.Box, command, told string, e api.Errno) {
	t.Helper()
	got, out, err := b.Do(command)
	if got != told || err != e {
		t.Errorf("%q: %q, error %d, want %q, error %d", command, got, err, told, e)
	}
	if err != api.OK && len(out) > 0 {
		t.Errorf("%q: error %d, and yet %v", command, err, out)
	}
}

// refused does a command that is refused, and asks that nothing is another one behind it.
func refused(t *testing.T, b *box.Box, command, told string, e api.Errno) {
	t.Helper()
	before := stands(b)
	want(t, b, command, told, e)
	if after := stands(b); after != before {
		t.Errorf("%q: %s, was %s", command, after, before)
	}
}

// dos does commands, parted by ";", of which each tells ok.
func dos(t *testing.T, b *box.Box, commands string) {
	t.Helper()
	for _, s := range strings.Split(commands, ";") {
		if s != "" {
			want(t, b, s, "ok", api.OK)
		}
	}
}

// ids are commits, each of a router-id of that number.
func ids(numbers ...int) string {
	var l []string
	for _, n := range numbers {
		l = append(l, fmt.Sprintf("set router-id 0.0.0.%d;commit", n))
	}
	return strings.Join(l, ";")
}

// ticks lets time go by.
func ticks(t *testing.T, b *box.Box, n int) {
	t.Helper()
	for range n {
		_, e := b.Tick()
		wantErrno(t, "Tick", e, api.OK)
	}
}

func wantErrno(t *testing.T, what string, got, want api.Errno) {
	t.Helper()
	if got != want {
		t.Fatalf("%s: error %d, want %d", what, got, want)
	}
}

// read is a configuration as it is written.
func read(t *testing.T, text string) conf.Conf {
	t.Helper()
	c, e := parse.Text(text)
	wantErrno(t, text, e, api.OK)
	return c
}

// line is a configuration in a single line; nothing is "-".
func line(c conf.Conf) string {
	if len(c) == 0 {
		return "-"
	}
	var l []string
	for _, x := range c {
		l = append(l, strings.TrimSpace(fmt.Sprintf("%s %s %s", x.Name, x.Leaf, x.Value)))
	}
	return strings.Join(l, ",")
}

// runs is what runs, and what ran ahead of it.
func runs(b *box.Box) string {
	var l []string
	for n := 0; ; n++ {
		c, e := b.Archive(n)
		if e != api.OK {
			return strings.Join(l, " | ")
		}
		l = append(l, line(c))
	}
}

// wantRuns asks for what runs, and what ran ahead of it.
func wantRuns(t *testing.T, what string, b *box.Box, want string) {
	t.Helper()
	if got := runs(b); got != want {
		t.Errorf("%s: %s, want %s", what, got, want)
	}
	if line(b.Running()) != strings.Split(want, " | ")[0] {
		t.Errorf("%s: Running: %s", what, line(b.Running()))
	}
	if !slices.Equal(b.Engine().Conf(), b.Running()) {
		t.Errorf("%s: the Engine's: %v", what, b.Engine().Conf())
	}
}

// stands is all that a box can be asked.
func stands(b *box.Box) string {
	e := b.Engine()
	told := fmt.Sprint(runs(b), "\n", line(b.Candidate()), "\n", b.Pending(), e.Conf(), e.Seen(), e.Faces())
	for area := range uint32(2) {
		told += fmt.Sprint(e.Heads(area))
	}
	return told
}

// entries are those that a disk's journal has; to open it writes nothing.
func entries(t *testing.T, d *disk.Disk) [][]byte {
	t.Helper()
	j, e := journal.Open(d)
	wantErrno(t, "journal.Open", e, api.OK)
	return j.All()
}

func wantEntries(t *testing.T, what string, d *disk.Disk, want ...string) {
	t.Helper()
	got := entries(t, d)
	if !slices.EqualFunc(got, want, func(b []byte, s string) bool { return string(b) == s }) {
		t.Errorf("%s: %q, want %q", what, got, want)
	}
}

// laid is a disk whose journal has just these entries.
func laid(t *testing.T, sectors int, l ...string) *disk.Disk {
	t.Helper()
	d := newDisk(t, sectors)
	j, e := journal.Begin(d)
	wantErrno(t, "journal.Begin", e, api.OK)
	for _, s := range l {
		wantErrno(t, "Append", j.Append([]byte(s)), api.OK)
	}
	return d
}

// put is a configuration as an entry has it, by other means than the program's.
func put(c conf.Conf) string {
	var b bytes.Buffer
	for _, l := range c {
		b.WriteByte(byte(l.Head))
		for _, s := range []string{l.Name, l.Leaf, l.Value} {
			b.WriteByte(byte(len(s)))
			b.WriteString(s)
		}
	}
	return b.String()
}

// put1, put2 and put4 are entries of a configuration, put2 of one that waits so many ticks.
func put1(c conf.Conf) string        { return "\x01" + put(c) }
func put2(n int, c conf.Conf) string { return "\x02" + string([]byte{byte(n / 256), byte(n)}) + put(c) }
func put4(c conf.Conf) string        { return "\x04" + put(c) }

// id is the configuration that has just that router-id.
func id(n int) conf.Conf {
	return conf.Conf{{Leaf: "router-id", Value: fmt.Sprintf("0.0.0.%d", n)}}
}

// subset is the bits-th of the choices of n.
func subset(n, bits int) []bool {
	kept := make([]bool, n)
	for k := range kept {
		kept[k] = bits>>k&1 == 1
	}
	return kept
}

// sameOuts tells whether the same is sent.
func sameOuts(a, b []engine.Out) bool {
	return slices.EqualFunc(a, b, func(x, y engine.Out) bool {
		return x.Face == y.Face && x.To == y.To && bytes.Equal(x.Text, y.Text)
	})
}

// addr is an address by its text.
func addr(s string) uint32 {
	n, ok := schema.Addr(s)
	if !ok {
		panic("no address: " + s)
	}
	return n
}

func some[T any](r *rand.Rand, l ...T) T { return l[r.Intn(len(l))] }
