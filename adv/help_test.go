package adv_test

import (
	"fmt"
	"math/rand"
	"slices"
	"strings"
	"testing"

	"waystone/adv"
	"waystone/api"
	"waystone/conf"
	"waystone/lsa"
	"waystone/parse"
	"waystone/schema"
)

// read is a configuration as it is written.
func read(t *testing.T, text string) conf.Conf {
	t.Helper()
	c, e := parse.Text(text)
	if e != api.OK {
		t.Fatalf("%q: error %d", text, e)
	}
	return c
}

// iface is an interface of area 0.0.0.0 as it is written, with more lines.
func iface(name, address string, more ...string) string {
	if !strings.Contains(strings.Join(more, " "), "area") {
		more = append(more, "area 0.0.0.0")
	}
	return "interface " + name + " { address " + address + "; " + strings.Join(more, "; ") + "; }\n"
}

const us = "router-id 5.5.5.5;\n"

// addr is an address by its text.
func addr(s string) uint32 {
	n, ok := schema.Addr(s)
	if !ok {
		panic("no address: " + s)
	}
	return n
}

// peers are some that are Full, each "ID ADDRESS".
func peers(l ...string) []adv.Peer {
	var all []adv.Peer
	for _, s := range l {
		id, at, _ := strings.Cut(s, " ")
		all = append(all, adv.Peer{Id: addr(id), Addr: addr(at)})
	}
	return all
}

// face is an interface with its speaker ("" of none).
func face(name, dr string, full ...string) adv.Face {
	f := adv.Face{Name: name, Full: peers(full...)}
	if dr != "" {
		f.Dr = addr(dr)
	}
	return f
}

// written is an Lsa in words, with all that it holds.
func written(o adv.Own) string {
	l := o.Lsa
	s := fmt.Sprintf("%s: %d %s %s", schema.Dotted(o.Area), l.Key.Type, schema.Dotted(l.Key.Id), schema.Dotted(l.Key.Adv))
	if l.Age != 0 || l.Seq != api.FirstSeq || l.Cost != 0 {
		s += fmt.Sprintf(" age %d seq %d cost %d", l.Age, l.Seq, l.Cost)
	}
	for _, x := range l.Links {
		s += fmt.Sprintf(" [%s %s %d %d]", schema.Dotted(x.Id), schema.Dotted(x.Data), x.Type, x.Cost)
	}
	if l.Mask != 0 || l.Routers != nil {
		s += " mask " + schema.Dotted(l.Mask)
	}
	for _, r := range l.Routers {
		s += " " + schema.Dotted(r)
	}
	return s
}

// wantAll asks All for just these Lsas, each in words, and each one that may be.
func wantAll(t *testing.T, c conf.Conf, faces []adv.Face, want ...string) {
	t.Helper()
	told, e := adv.All(c, faces)
	var got []string
	for _, o := range told {
		got = append(got, written(o))
		if _, e := lsa.Put(o.Lsa); e != api.OK {
			t.Errorf("can't be put: %s", written(o))
		}
	}
	if e != api.OK || !slices.Equal(got, want) {
		t.Errorf("error %d, told\n%s\nwant\n%s", e, strings.Join(got, "\n"), strings.Join(want, "\n"))
	}
}

func wantError(t *testing.T, what string, c conf.Conf, faces []adv.Face, want api.Errno) {
	t.Helper()
	if told, e := adv.All(c, faces); e != want || len(told) != 0 {
		t.Errorf("%s: %v, error %d, want error %d", what, told, e, want)
	}
}

// anyConf is a configuration that may be used.
func anyConf(t *testing.T, r *rand.Rand) conf.Conf {
	text := us
	areas := []string{"area 0.0.0.0", "area 0.0.0.2", "area 0.0.0.10", "area 10.0.0.0"}
	for i, at := range r.Perm(r.Intn(9)) {
		more := []string{areas[r.Intn(4)]}
		if i == 0 {
			more[0] = areas[0]
		}
		if r.Intn(3) == 0 {
			more = append(more, "network point-to-point")
		}
		if r.Intn(2) == 0 {
			more = append(more, fmt.Sprintf("cost %d", 1+r.Intn(65535)))
		}
		text += iface(fmt.Sprintf("e%d", i), fmt.Sprintf("10.%d.0.%d/%d", at, 1+r.Intn(3), 16+r.Intn(17)), more...)
	}
	return read(t, text)
}

// anyFaces are faces of some interfaces, in any order, whose speakers and neighbors are few, so that many meet.
func anyFaces(r *rand.Rand, c conf.Conf) []adv.Face {
	var faces []adv.Face
	names := conf.Names(c, api.Interface)
	for _, i := range r.Perm(len(names)) {
		if r.Intn(6) == 0 {
			continue
		}
		own, _, _ := schema.Net(conf.Value(c, api.Interface, names[i], "address"))
		at := func() uint32 { return own&^255 | uint32(r.Intn(4)) }
		f := adv.Face{Name: names[i], Dr: []uint32{0, own, at()}[r.Intn(3)]}
		for range r.Intn(9) {
			f.Full = append(f.Full, adv.Peer{Id: []uint32{addr("5.5.5.5"), 1, 0xFFFFFFFF, r.Uint32()}[r.Intn(4)], Addr: at()})
		}
		faces = append(faces, f)
	}
	return faces
}
