package lsa_test

import (
	"bytes"
	"math"
	"math/rand"
	"slices"
	"testing"

	"waystone/api"
	"waystone/lsa"
)

// P10.1
func TestHead(t *testing.T) {
	all := []lsa.Header{
		{}, {Age: 65535, Key: lsa.Key{Type: 255, Id: 0xFFFFFFFF, Adv: 0xFFFFFFFF}, Seq: -1, Sum: 65535, Len: 65535},
		{Age: 0x0102, Key: lsa.Key{Type: 3, Id: 0x04050607, Adv: 0x08090A0B}, Seq: 0x0C0D0E0F, Sum: 0x1011, Len: 0x1213},
		{Seq: -2147483648}, {Seq: 2147483647}, {Seq: api.FirstSeq}, {Age: 3601}, {Key: lsa.Key{Type: 4}},
	}
	for _, want := range all {
		b := headBytes(want)
		for _, more := range []int{0, 1, 500} {
			if h, e := lsa.Head(append(slices.Clone(b), bytes.Repeat([]byte{9}, more)...)); e != api.OK || h != want {
				t.Errorf("Head: error %d, %v, want %v", e, h, want)
			}
		}
		for n := range b {
			if h, e := lsa.Head(b[:n]); e != api.ErrShort || h != (lsa.Header{}) {
				t.Errorf("Head of %d bytes: error %d, %v", n, e, h)
			}
		}
		b[2] = 77 // which no header tells
		if h, e := lsa.Head(b); e != api.OK || h != want {
			t.Errorf("Head: error %d, %v, want %v", e, h, want)
		}
	}
	if h, e := lsa.Head(nil); e != api.ErrShort || h != (lsa.Header{}) {
		t.Errorf("Head of nothing: error %d, %v", e, h)
	}
}

// P10.1: of what is put.
func TestHeadOfAnLsa(t *testing.T) {
	r := rand.New(rand.NewSource(4))
	for range 200 {
		l := anyLsa(r)
		b := bytesOf(l)
		want := lsa.Header{Age: l.Age, Key: l.Key, Seq: l.Seq, Sum: uint16(b[16])<<8 | uint16(b[17]), Len: len(b)}
		h, e := lsa.Head(b)
		if e != api.OK || h != want {
			t.Fatalf("error %d, %v, want %v", e, h, want)
		}
		if c := lsa.PutHeader(h); !bytes.Equal(c, b[:20]) {
			t.Fatalf("%x, want %x", c, b[:20])
		}
	}
}

// P10.1
func TestPutHeader(t *testing.T) {
	h := lsa.Header{Age: 0x0102, Key: lsa.Key{Type: 3, Id: 0x04050607, Adv: 0x08090A0B}, Seq: 0x0C0D0E0F, Sum: 0x1011, Len: 0x1213}
	want := []byte{1, 2, 2, 3, 4, 5, 6, 7, 8, 9, 10, 11, 12, 13, 14, 15, 16, 17, 18, 19}
	if b := lsa.PutHeader(h); !bytes.Equal(b, want) {
		t.Errorf("%x", b)
	}
	// each number is cut to its size
	h.Age, h.Key.Type, h.Seq, h.Len = h.Age+0x50000, h.Key.Type+0x700, h.Seq+0x300000000, h.Len-0x20000
	if b := lsa.PutHeader(h); !bytes.Equal(b, want) {
		t.Errorf("cut: %x", b)
	}
	least := lsa.Header{Age: math.MinInt, Key: lsa.Key{Type: math.MinInt}, Seq: math.MinInt, Len: math.MinInt}
	if b := lsa.PutHeader(least); !bytes.Equal(b, headBytes(lsa.Header{})) {
		t.Errorf("the least: %x", b)
	}
	greatest := lsa.Header{Age: math.MaxInt, Key: lsa.Key{Type: math.MaxInt}, Seq: math.MaxInt, Len: math.MaxInt}
	if b := lsa.PutHeader(greatest); !bytes.Equal(b, headBytes(lsa.Header{Age: 65535, Key: lsa.Key{Type: 255}, Seq: -1, Len: 65535})) {
		t.Errorf("the greatest: %x", b)
	}
}

// P10.1
func TestCompare(t *testing.T) {
	other := lsa.Key{Type: 9, Id: 9, Adv: 9}
	for what, a := range map[string]struct {
		a, b lsa.Header
		want int
	}{
		"the same":                               {lsa.Header{}, lsa.Header{}, 0},
		"another key and count":                  {lsa.Header{Key: other, Len: 9}, lsa.Header{}, 0},
		"a greater number":                       {lsa.Header{Seq: 1}, lsa.Header{}, 1},
		"a greater number, from below 0":         {lsa.Header{Seq: 1}, lsa.Header{Seq: -1, Sum: 9}, 1},
		"the greatest and the first":             {lsa.Header{Seq: api.LastSeq}, lsa.Header{Seq: api.FirstSeq}, 1},
		"numbers beyond":                         {lsa.Header{Seq: math.MaxInt}, lsa.Header{Seq: math.MinInt}, 1},
		"a greater number, and the end":          {lsa.Header{Seq: 1}, lsa.Header{Age: 3600, Sum: 9}, 1},
		"a greater sum":                          {lsa.Header{Sum: 1}, lsa.Header{}, 1},
		"a greater sum, not by its sign":         {lsa.Header{Sum: 0x8000}, lsa.Header{Sum: 0x7FFF}, 1},
		"a greater sum, and the end":             {lsa.Header{Sum: 1}, lsa.Header{Age: 3600}, 1},
		"a greater sum, and another age":         {lsa.Header{Sum: 1, Age: 3000}, lsa.Header{}, 1},
		"the end":                                {lsa.Header{Age: 3600}, lsa.Header{Age: 3599}, 1},
		"the end, and the begin":                 {lsa.Header{Age: 3600}, lsa.Header{}, 1},
		"both ends":                              {lsa.Header{Age: 3600}, lsa.Header{Age: 3600}, 0},
		"the end, and behind it":                 {lsa.Header{Age: 3600}, lsa.Header{Age: 3601}, 1},
		"ages that differ by 900":                {lsa.Header{}, lsa.Header{Age: 900}, 0},
		"ages that differ by 901":                {lsa.Header{}, lsa.Header{Age: 901}, 1},
		"ages that differ by 900, near the end":  {lsa.Header{Age: 2699}, lsa.Header{Age: 3599}, 0},
		"ages that differ by 901, near the end":  {lsa.Header{Age: 2698}, lsa.Header{Age: 3599}, 1},
		"ages that differ by 1":                  {lsa.Header{Age: 1}, lsa.Header{Age: 2}, 0},
		"ages behind the end":                    {lsa.Header{Age: 3601}, lsa.Header{Age: 65535}, 1},
		"ages below 0":                           {lsa.Header{Age: -901}, lsa.Header{}, 1},
		"ages as far apart as can be":            {lsa.Header{Age: math.MinInt}, lsa.Header{Age: math.MaxInt}, 1},
		"the least age, and 0":                   {lsa.Header{Age: math.MinInt}, lsa.Header{}, 1},
		"the greatest age, and one near":         {lsa.Header{Age: math.MaxInt - 900}, lsa.Header{Age: math.MaxInt}, 0},
		"the greatest age, and one not so near":  {lsa.Header{Age: math.MaxInt - 901}, lsa.Header{Age: math.MaxInt}, 1},
		"the end, and the least age":             {lsa.Header{Age: 3600}, lsa.Header{Age: math.MinInt}, 1},
		"a number and a sum that part":           {lsa.Header{Seq: 2, Sum: 1}, lsa.Header{Seq: 1, Sum: 2}, 1},
		"a number that is alike, sums that part": {lsa.Header{Seq: 2, Sum: 2, Age: 3600}, lsa.Header{Seq: 2, Sum: 1}, 1},
	} {
		if n := lsa.Compare(a.a, a.b); n != a.want {
			t.Errorf("%s: %d", what, n)
		}
		if n := lsa.Compare(a.b, a.a); n != -a.want {
			t.Errorf("%s, the other way round: %d", what, n)
		}
	}
}

// P10.1
func TestAlike(t *testing.T) {
	for _, l := range rights() {
		again := with(l, func(l *lsa.Lsa) { l.Age, l.Seq = l.Age+1, l.Seq+1 })
		again.Links, again.Routers = append([]lsa.Link{}, l.Links...), append([]uint32{}, l.Routers...)
		if !lsa.Alike(l, again) || !lsa.Alike(again, l) {
			t.Errorf("%v isn't alike", l)
		}
		for what, change := range map[string]func(l *lsa.Lsa){
			"type": func(l *lsa.Lsa) { l.Key.Type++ }, "id": func(l *lsa.Lsa) { l.Key.Id++ }, "adv": func(l *lsa.Lsa) { l.Key.Adv++ },
			"mask": func(l *lsa.Lsa) { l.Mask++ }, "cost": func(l *lsa.Lsa) { l.Cost++ },
			"one link more":   func(l *lsa.Lsa) { l.Links = append(slices.Clone(l.Links), lsa.Link{}) },
			"one router more": func(l *lsa.Lsa) { l.Routers = append(slices.Clone(l.Routers), 0) },
		} {
			if other := with(l, change); lsa.Alike(l, other) || lsa.Alike(other, l) {
				t.Errorf("%v: another %s is alike", l, what)
			}
		}
	}
	one := router(links(3)...)
	for i := range one.Links {
		for what, change := range map[string]func(k *lsa.Link){
			"id": func(k *lsa.Link) { k.Id++ }, "data": func(k *lsa.Link) { k.Data++ }, "type": func(k *lsa.Link) { k.Type++ }, "cost": func(k *lsa.Link) { k.Cost++ },
		} {
			other := router(links(3)...)
			change(&other.Links[i])
			if lsa.Alike(one, other) {
				t.Errorf("link %d: another %s is alike", i, what)
			}
		}
	}
	if lsa.Alike(network(1, 2), network(2, 1)) || lsa.Alike(network(1, 2), network(1, 3)) {
		t.Error("other routers")
	}
	if lsa.Alike(router(link(1, 1), link(2, 2)), router(link(2, 2), link(1, 1))) {
		t.Error("another order")
	}
	if !lsa.Alike(lsa.Lsa{}, lsa.Lsa{Links: []lsa.Link{}, Routers: []uint32{}}) {
		t.Error("no list and an empty one")
	}
}

// P10.3
func TestNothingIsKeptOrChanged(t *testing.T) {
	spare := lsa.Link{Id: 77}
	given := append(links(3), spare)
	routers := append(numbers(3), 77)
	for _, l := range []lsa.Lsa{router(given[:3]...), network(routers[:3]...), router(given[:4]...)} {
		b, _ := lsa.Put(l)
		for i := range b[:cap(b)] {
			b[:cap(b)][i] = 99
		}
		lsa.Alike(l, l)
	}
	if !slices.Equal(given, append(links(3), spare)) || !slices.Equal(routers, append(numbers(3), 77)) {
		t.Errorf("what was handed in is changed: %v, %v", given, routers)
	}
	for _, l := range []lsa.Lsa{router(links(3)...), network(numbers(3)...), summary(1)} {
		room := append(bytesOf(l), 88, 88)
		b, before := room[:len(room)-2], slices.Clone(room)
		one, _ := lsa.Get(b)
		two, _ := lsa.Get(b)
		h, _ := lsa.Head(b)
		if !bytes.Equal(room, before) {
			t.Errorf("Get has changed %x to %x", before, room)
		}
		for i := range room {
			room[i] = 99
		}
		for i := range two.Links[:cap(two.Links)] {
			two.Links[:cap(two.Links)][i] = lsa.Link{}
		}
		for i := range two.Routers[:cap(two.Routers)] {
			two.Routers[:cap(two.Routers)][i] = 0
		}
		if !same(one, l) || h.Key != l.Key {
			t.Errorf("what was got is changed: %v", one)
		}
	}
	one, two := lsa.PutHeader(lsa.Header{Age: 1}), lsa.PutHeader(lsa.Header{Age: 1})
	clear(two[:cap(two)])
	if !bytes.Equal(one, headBytes(lsa.Header{Age: 1})) {
		t.Errorf("%x", one)
	}
}
