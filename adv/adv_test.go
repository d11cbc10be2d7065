package adv_test

import (
	"fmt"
	"math/rand"
	"reflect"
	"slices"
	"strings"
	"testing"

	"waystone/adv"
	"waystone/api"
	"waystone/conf"
	"waystone/lsa"
)

// P15.1: the example, and an interface that nobody speaks for.
func TestAlone(t *testing.T) {
	c := read(t, us+iface("e", "10.0.0.1/24"))
	alone := "0.0.0.0: 1 5.5.5.5 5.5.5.5 [10.0.0.0 255.255.255.0 3 10]"
	wantAll(t, c, nil, alone)
	wantAll(t, c, []adv.Face{}, alone)
	wantAll(t, c, []adv.Face{face("e", "")}, alone)
	wantAll(t, nil, nil)
	wantAll(t, read(t, us), nil)
}

// P15.1: each row of the table, of one interface.
func TestLinks(t *testing.T) {
	const (
		router = "0.0.0.0: 1 5.5.5.5 5.5.5.5 "
		stub   = router + "[10.0.0.0 255.255.255.0 3 7]"
	)
	for _, a := range []struct {
		two  bool
		face adv.Face
		want []string
	}{
		// we speak, for somebody or nobody
		{false, face("e", "10.0.0.2"), []string{stub}},
		{false, face("e", "10.0.0.2", "1.1.1.1 10.0.0.1"), []string{router + "[10.0.0.2 10.0.0.2 2 7]", "0.0.0.0: 2 10.0.0.2 5.5.5.5 mask 255.255.255.0 1.1.1.1 5.5.5.5"}},
		{false, face("e", "10.0.0.2", "9.9.9.9 10.0.0.1", "1.1.1.1 10.0.0.9", "9.9.9.9 10.0.0.8"), []string{router + "[10.0.0.2 10.0.0.2 2 7]", "0.0.0.0: 2 10.0.0.2 5.5.5.5 mask 255.255.255.0 1.1.1.1 5.5.5.5 9.9.9.9"}},
		// another one speaks, and is Full or isn't
		{false, face("e", "10.0.0.1"), []string{stub}},
		{false, face("e", "10.0.0.1", "1.1.1.1 10.0.0.3"), []string{stub}},
		{false, face("e", "10.0.0.1", "1.1.1.1 10.0.0.3", "2.2.2.2 10.0.0.1"), []string{router + "[10.0.0.1 10.0.0.2 2 7]"}},
		// nobody speaks
		{false, face("e", "", "1.1.1.1 10.0.0.1"), []string{stub}},
		{false, face("e", "", "1.1.1.1 0.0.0.0"), []string{stub}},
		// two alone, whoever speaks
		{true, face("e", ""), []string{stub}},
		{true, face("e", "10.0.0.2", "1.1.1.1 10.0.0.1"), []string{router + "[1.1.1.1 10.0.0.2 1 7] [10.0.0.0 255.255.255.0 3 7]"}},
		{true, face("e", "10.0.0.1", "9.9.9.9 10.0.0.1", "1.1.1.1 10.0.0.7"), []string{router + "[9.9.9.9 10.0.0.2 1 7] [1.1.1.1 10.0.0.2 1 7] [10.0.0.0 255.255.255.0 3 7]"}},
	} {
		more := []string{"cost 7"}
		if a.two {
			more = append(more, "network point-to-point")
		}
		wantAll(t, read(t, us+iface("e", "10.0.0.2/24", more...)), []adv.Face{a.face}, a.want...)
	}
	// nobody's address is nobody's, even where it is ours
	wantAll(t, read(t, us+iface("e", "0.0.0.0/24")), []adv.Face{face("e", "0.0.0.0", "1.1.1.1 0.0.0.0")}, "0.0.0.0: 1 5.5.5.5 5.5.5.5 [0.0.0.0 255.255.255.0 3 10]")
}

// P15.1: areas rise as numbers, Network Lsas by their ids, links by the names of interfaces; what an area is told is of its interfaces alone.
func TestOrder(t *testing.T) {
	c := read(t, us+
		iface("c", "10.0.1.1/24", "area 0.0.0.10")+iface("b", "10.0.9.1/24", "area 0.0.0.10")+iface("a", "10.0.5.1/32", "area 0.0.0.10", "cost 3")+
		iface("z", "10.0.8.1/24", "area 0.0.0.9")+iface("Z", "200.0.0.1/24"))
	faces := []adv.Face{face("z", "10.0.8.1", "7.7.7.7 10.0.8.2"), face("c", "10.0.1.1", "7.7.7.7 10.0.1.2"), face("b", "10.0.9.1", "3.3.3.3 10.0.9.2")}
	wantAll(t, c, faces,
		"0.0.0.0: 1 5.5.5.5 5.5.5.5 [200.0.0.0 255.255.255.0 3 10]",
		"0.0.0.9: 1 5.5.5.5 5.5.5.5 [10.0.8.1 10.0.8.1 2 10]",
		"0.0.0.9: 2 10.0.8.1 5.5.5.5 mask 255.255.255.0 5.5.5.5 7.7.7.7",
		"0.0.0.10: 1 5.5.5.5 5.5.5.5 [10.0.5.1 255.255.255.255 3 3] [10.0.9.1 10.0.9.1 2 10] [10.0.1.1 10.0.1.1 2 10]",
		"0.0.0.10: 2 10.0.1.1 5.5.5.5 mask 255.255.255.0 5.5.5.5 7.7.7.7",
		"0.0.0.10: 2 10.0.9.1 5.5.5.5 mask 255.255.255.0 3.3.3.3 5.5.5.5",
	)
}

// P15.1: no more links than an Lsa has room for, and as many neighbors as may be.
func TestManyLinks(t *testing.T) {
	for _, n := range []int{4, 5, 8} {
		text, want := us, "0.0.0.0: 1 5.5.5.5 5.5.5.5"
		var faces []adv.Face
		count := 0
		for i := range n {
			name, net := string(rune('a'+i)), fmt.Sprintf("10.0.%d.", i)
			text += iface(name, net+"1/24", "network point-to-point")
			f := adv.Face{Name: name}
			for p := range 8 {
				f.Full = append(f.Full, adv.Peer{Id: uint32(p), Addr: addr(net + "2")})
				if count++; count <= 40 {
					want += fmt.Sprintf(" [0.0.0.%d %s1 1 10]", p, net)
				}
			}
			faces = append(faces, f)
			if count++; count <= 40 {
				want += " [" + net + "0 255.255.255.0 3 10]"
			}
		}
		wantAll(t, read(t, text), faces, want)
	}
}

// P15.1, P1: errors, in their order.
func TestAllThatCantBe(t *testing.T) {
	c := read(t, us+iface("a", "10.0.0.1/24")+iface("b", "10.0.1.1/24"))
	eight := adv.Face{Name: "a", Full: make([]adv.Peer, 8)}
	nine := adv.Face{Name: "b", Full: make([]adv.Peer, 9)}
	if _, e := adv.All(c, []adv.Face{eight}); e != api.OK {
		t.Errorf("8 that are Full: error %d", e)
	}
	for what, faces := range map[string][]adv.Face{
		"no interface's": {{Name: "c"}}, "no name": {{}}, "another one's": {{Name: "a"}, {Name: "A"}},
		"twice": {{Name: "a"}, {Name: "a"}}, "twice, apart": {{Name: "a"}, {Name: "b"}, {Name: "a"}}, "too many": {eight, nine},
	} {
		wantError(t, what, c, faces, api.ErrArg)
		wantError(t, what+", and wrong", c[1:], faces, api.ErrRule)
	}
	wantError(t, "of nothing", nil, []adv.Face{{Name: "a"}}, api.ErrArg)
	for _, c := range wrongs(t) {
		wantError(t, "wrong", c, nil, api.ErrRule)
	}
}

// told is All by other means: line by line of the document's table, in words that are sorted behind.
func told(c conf.Conf, faces []adv.Face) []string {
	links := map[uint32]string{}
	var networks []adv.Own
	for _, name := range conf.Names(c, api.Interface) {
		s, _ := adv.Settings(c, name)
		at := slices.IndexFunc(faces, func(f adv.Face) bool { return f.Name == name })
		f := adv.Face{}
		if at >= 0 {
			f = faces[at]
		}
		n := lsa.Lsa{Key: lsa.Key{Type: 2, Id: s.Addr, Adv: adv.Id(c)}, Seq: api.FirstSeq, Mask: s.Mask, Routers: []uint32{adv.Id(c)}}
		full := false
		for _, p := range f.Full {
			full = full || p.Addr == f.Dr
			if !slices.Contains(n.Routers, p.Id) {
				n.Routers = append(n.Routers, p.Id)
			}
			if s.Two {
				links[s.Area] += linkOf(p.Id, s.Addr, 1, s.Cost)
			}
		}
		ours := !s.Two && f.Dr == s.Addr && len(f.Full) > 0
		if ours {
			slices.Sort(n.Routers)
			networks = append(networks, adv.Own{Area: s.Area, Lsa: n})
		}
		if !s.Two && f.Dr != 0 && (ours || full) {
			links[s.Area] += linkOf(f.Dr, s.Addr, 2, s.Cost)
		} else {
			links[s.Area] += linkOf(s.Addr&s.Mask, s.Mask, 3, s.Cost)
		}
	}
	return inOrder(links, networks, adv.Id(c))
}

func linkOf(id, data uint32, kind, cost int) string {
	o := adv.Own{Lsa: lsa.Lsa{Seq: api.FirstSeq, Links: []lsa.Link{{Id: id, Data: data, Type: kind, Cost: cost}}}}
	_, link, _ := strings.Cut(written(o), " [")
	return " [" + link
}

func inOrder(links map[uint32]string, networks []adv.Own, id uint32) []string {
	var all []string
	for _, area := range []string{"0.0.0.0", "0.0.0.2", "0.0.0.10", "10.0.0.0"} {
		if s := links[addr(area)]; s != "" {
			parts := strings.SplitAfter(s, "]")
			o := adv.Own{Area: addr(area), Lsa: lsa.Lsa{Key: lsa.Key{Type: 1, Id: id, Adv: id}, Seq: api.FirstSeq}}
			all = append(all, written(o)+strings.Join(parts[:min(len(parts), 40)], ""))
		}
		var l []adv.Own
		for _, o := range networks {
			if o.Area == addr(area) {
				l = append(l, o)
			}
		}
		slices.SortFunc(l, func(a, b adv.Own) int { return int(a.Lsa.Key.Id) - int(b.Lsa.Key.Id) })
		for _, o := range l {
			all = append(all, written(o))
		}
	}
	return all
}

// P15.1: of any configuration and faces, as is told by other means.
func TestAllOfAny(t *testing.T) {
	r := rand.New(rand.NewSource(151))
	for range 1500 {
		c := anyConf(t, r)
		faces := anyFaces(r, c)
		wantAll(t, c, faces, told(c, faces)...)
	}
}

// P1: any lines and faces at all.
func TestAllEnds(t *testing.T) {
	r := rand.New(rand.NewSource(152))
	texts := []string{"", "a", "b", "0.0.0.0", "1.1.1.1", "10.0.0.1/24", "address", "area", "router-id", "cost", "\x00", "9"}
	text := func() string { return texts[r.Intn(len(texts))] }
	for range 3000 {
		var c conf.Conf
		for range r.Intn(6) {
			c = append(c, conf.Line{Head: r.Intn(5) - 1, Name: text(), Leaf: text(), Value: text()})
		}
		var faces []adv.Face
		for range r.Intn(3) {
			faces = append(faces, adv.Face{Name: text(), Dr: r.Uint32(), Full: make([]adv.Peer, r.Intn(10))})
		}
		adv.Id(c)
		adv.Settings(c, text())
		adv.All(c, faces)
	}
}

// P15.2: what is handed in stays as it is, its spare room too, and what is done with an answer changes no other one.
func TestNothingIsShared(t *testing.T) {
	r := rand.New(rand.NewSource(153))
	for range 200 {
		c := anyConf(t, r)
		faces := anyFaces(r, c)
		room := make(conf.Conf, len(c), len(c)+3)
		copy(room, c)
		spare := make([]adv.Face, len(faces), len(faces)+2)
		for i, f := range faces {
			f.Full = append(make([]adv.Peer, 0, 12), f.Full...)
			spare[i] = f
		}
		first, _ := adv.All(room, spare)
		adv.Settings(room, "e0")
		if !slices.Equal(room, c) || !reflect.DeepEqual(plain(spare), plain(faces)) || !isEmpty(room, spare) {
			t.Fatalf("what was handed in was changed")
		}
		want := fmt.Sprint(first)
		second, _ := adv.All(c, faces)
		spoil(second)
		for i := range spare {
			spare[i].Dr++
			clear(spare[i].Full)
		}
		if fmt.Sprint(first) != want {
			t.Fatalf("%v, want %s", first, want)
		}
		wantApart(t, func() []adv.Own {
			l, _ := adv.All(c, faces)
			return l
		})
	}
}

func plain(faces []adv.Face) string {
	return fmt.Sprint(faces)
}

// isEmpty tells whether nothing was laid into spare room.
func isEmpty(c conf.Conf, faces []adv.Face) bool {
	empty := true
	for _, l := range c[len(c):cap(c)] {
		empty = empty && l == conf.Line{}
	}
	for _, f := range faces {
		for _, p := range f.Full[len(f.Full):cap(f.Full)] {
			empty = empty && p == adv.Peer{}
		}
	}
	for _, f := range faces[len(faces):cap(faces)] {
		empty = empty && f.Name == "" && f.Full == nil
	}
	return empty
}

// spoil changes all that is told, and lays something behind it.
func spoil(l []adv.Own) {
	for i := range l {
		clear(l[i].Lsa.Links)
		clear(l[i].Lsa.Routers)
		_ = append(l[i].Lsa.Links, lsa.Link{Id: 1})
		_ = append(l[i].Lsa.Routers, 1)
	}
}

// wantApart asks whether each list of an answer is its own.
func wantApart(t *testing.T, tell func() []adv.Own) {
	t.Helper()
	want := tell()
	for i := range want {
		l := tell()
		spoil(l[i : i+1])
		for j := range l {
			if j != i && written(l[j]) != written(want[j]) {
				t.Fatalf("lists are shared: %v", l)
			}
		}
	}
}
