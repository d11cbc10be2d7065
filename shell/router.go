package shell

import (
	"strconv"
	"strings"

	"waystone/adv"
	"waystone/api"
	"waystone/box"
	"waystone/disk"
	"waystone/engine"
)

// sectors is how many the disk of each router has.
const sectors = 512

// router is one of the two.
type router struct {
	name  string
	disk  *disk.Disk
	box   *box.Box
	other *router
}

// newRouter tells one on a disk of its own. Such a disk can't be refused.
func newRouter(name string) *router {
	d, _ := disk.New(sectors)
	b, _ := box.Begin(d)
	return &router{name: name, disk: d, box: b}
}

// do does a command, and tells what came of it, but for the last line end.
func (r *router) do(command string) string {
	told, sent, e := r.box.Do(command)
	r.send(sent)
	told = strings.TrimSuffix(told, "\n")
	if e == api.OK {
		return told
	}
	failed := "error " + strconv.Itoa(int(e))
	if told == "" {
		return failed
	}
	return failed + "\n" + told
}

// tick lets time go by. A commit that has no room to go back tries again at the next tick, and nothing is sent till then.
func (r *router) tick() {
	sent, _ := r.box.Tick()
	r.send(sent)
}

// crash lets power go, and opens what is there to stay, which begins as a router that knows nobody.
func (r *router) crash() {
	r.disk.Crash(nil)
	r.box, _ = box.Open(r.disk)
}

// send brings packets to the other router, one behind the other, and of each at once what that sends by it. One that is refused has nothing sent, and doesn't stand in the way of those behind it.
func (r *router) send(packets []engine.Out) {
	for _, p := range packets {
		to, e := adv.Settings(r.other.box.Running(), p.Face)
		if e != api.OK || p.To != 0 && p.To != to.Addr {
			continue
		}
		from, _ := adv.Settings(r.box.Running(), p.Face)
		sent, _ := r.other.box.Take(p.Face, from.Addr, p.Text)
		r.other.send(sent)
	}
}
