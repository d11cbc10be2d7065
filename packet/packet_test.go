package packet_test

import (
	"bytes"
	"math/rand"
	"slices"
	"strings"
	"testing"

	"waystone/api"
	"waystone/lsa"
	"waystone/packet"
)

// P11.1: byte by byte. The sums of those of 0xC0A8AA08 were seen on a real network.
func TestPut(t *testing.T) {
	const from = 0xC0A8AA08
	for what, a := range map[string]struct {
		p    packet.Packet
		want string
	}{
		"a greeting": {packet.Packet{Type: packet.Hello, Router: from, Area: 1, Hello: packet.Greeting{Mask: 0xFFFFFF00, Interval: 10, Dead: 40, Priority: 1, Dr: from}},
			"0201002C C0A8AA08 00000001 273B 0000 0000000000000000 FFFFFF00 000A 02 01 00000028 C0A8AA08 00000000"},
		"the same with a key": {packet.Packet{Type: packet.Hello, Router: from, Area: 1, Auth: "key", Hello: packet.Greeting{Mask: 0xFFFFFF00, Interval: 10, Dead: 40, Priority: 1, Dr: from}},
			"0201002C C0A8AA08 00000001 273A 0001 6B65790000000000 FFFFFF00 000A 02 01 00000028 C0A8AA08 00000000"},
		"a greeting of all": {packet.Packet{Type: packet.Hello, Hello: packet.Greeting{Mask: 1, Interval: 0x0203, Dead: 0x0405, Priority: 6, Dr: 0x0708090A, Bdr: 0x0B0C0D0E, Neighbors: []uint32{0x0F101112, 0x13141516}}},
			"02010034 00000000 00000000 8543 0000 0000000000000000 00000001 0203 02 06 00000405 0708090A 0B0C0D0E 0F101112 13141516"},
		"what is there": {packet.Packet{Type: packet.Database, Router: from, Area: 1, Flags: 7, Seq: 0x4177A97E},
			"02020020 C0A8AA08 00000001 A052 0000 0000000000000000 05DC 02 07 4177A97E"},
		"a request": {packet.Packet{Type: packet.Request, Router: 0xC0A8AA03, Area: 1, Keys: []lsa.Key{{Type: 1, Id: from, Adv: from}}},
			"02030024 C0A8AA03 00000001 BDC7 0000 0000000000000000 00000001 C0A8AA08 C0A8AA08"},
		"a request of nothing": {packet.Packet{Type: packet.Request}, "02030018 00000000 00000000 FDE4 0000 0000000000000000"},
		"an update of nothing": {packet.Packet{Type: packet.Update, Auth: "ABCDEFGH"}, "0204001C 00000000 00000000 FDDE 0001 4142434445464748 00000000"},
		"an update": {packet.Packet{Type: packet.Update, Lsas: []lsa.Lsa{{Age: 1, Key: lsa.Key{Type: lsa.Router}, Seq: 1}, {Age: 2, Key: lsa.Key{Type: lsa.Router}, Seq: 2}}},
			"0204004C 00000000 00000000 SSSS 0000 0000000000000000 00000002 0001 02 01 00000000 00000000 00000001 FFFF 0018 00000000 0002 02 01 00000000 00000000 00000002 FFFF 0018 00000000"},
		"an ack": {packet.Packet{Type: packet.Ack, Router: 1, Area: 2, Heads: []lsa.Header{{Age: 0x0102, Key: lsa.Key{Type: 3, Id: 4, Adv: 5}, Seq: -1, Sum: 0x0607, Len: 0x0809}}},
			"0205002C 00000001 00000002 ECAD 0000 0000000000000000 0102 02 03 00000004 00000005 FFFFFFFF 0607 0809"},
	} {
		want := hexed(t, strings.ReplaceAll(a.want, "S", "0"))
		if what == "an update" {
			// the sums of Lsas are told by layer 10
			for i, at := range []int{28, 52} {
				one, _ := lsa.Put(a.p.Lsas[i])
				copy(want[at+16:], one[16:18])
			}
			want = summed(want)
		}
		if b, e := packet.Put(a.p); e != api.OK || !bytes.Equal(b, want) {
			t.Errorf("%s: error %d\n got %X\nwant %X", what, e, b, want)
		}
	}
}

// P11.1, P11.2, P7
func TestGetWhatIsPut(t *testing.T) {
	r := rand.New(rand.NewSource(1))
	all := rights()
	for range 500 {
		all = append(all, anyPacket(r))
	}
	for _, p := range all {
		b, e := packet.Put(p)
		if want := bytesOf(p); e != api.OK || !bytes.Equal(b, want) {
			t.Fatalf("Put(%v): error %d\n got %x\nwant %x", p, e, b, want)
		}
		wantGot(t, "what is put", b, p)
	}
}

// P11.1
func TestPutWhatCannotBe(t *testing.T) {
	for what, p := range wrongs() {
		if b, e := packet.Put(p); e != api.ErrArg || len(b) != 0 {
			t.Errorf("%s: Put: error %d, %x", what, e, b)
		}
	}
}

// P11.2
func TestGetWithAnotherKey(t *testing.T) {
	keys := []string{"", "a", "b", "ab", "a ", "A", "12345678", "1234567", "12345679", "\xFF", "123456789", "12345678\x00", strings.Repeat("a", 1000)}
	for _, p := range rights() {
		for _, own := range keys[:10] {
			p.Auth = own
			b := bytesOf(p)
			for _, other := range keys {
				if other != own {
					wantRefused(t, "another key", b, other, api.ErrAuth)
				}
			}
			wantGot(t, "its own key", b, p)
		}
	}
}

// P11.1, P11.2: a key with a nought is none, even where its bytes are the ones that stand there.
func TestGetWithNoughtsInTheKey(t *testing.T) {
	p := ack(head(1))
	p.Auth = "a"
	b := bytesOf(p)
	for _, other := range []string{"a\x00", "a\x00\x00", "a\x00\x00\x00\x00\x00\x00\x00"} {
		wantRefused(t, "noughts behind", b, other, api.ErrForm)
	}
	for _, other := range []string{"\x00", "\x00a", "a\x00a", "a\x00\x00\x00\x00\x00\x00\x00\x00"} {
		wantRefused(t, "other noughts", b, other, api.ErrAuth)
	}
	p.Auth = ""
	b = bytesOf(p)
	wantRefused(t, "a nought, of a packet without a key", b, "\x00", api.ErrAuth)
	b[15] = 1 // a key of noughts
	b = summed(b)
	wantRefused(t, "no key", b, "", api.ErrAuth)
	for n := 1; n <= 8; n++ {
		wantRefused(t, "a key of noughts", b, strings.Repeat("\x00", n), api.ErrForm)
	}
	wantRefused(t, "a key of too many noughts", b, strings.Repeat("\x00", 9), api.ErrAuth)
	between := bytesOf(with(ack(), func(p *packet.Packet) { p.Auth = "axb" }))
	between[17] = 0
	wantRefused(t, "a nought between", between, "a\x00b", api.ErrForm)
	wantRefused(t, "a nought between, and the key ahead of it", between, "a", api.ErrAuth)
}

// P11.1
func TestGetOfWrongKinds(t *testing.T) {
	for _, auth := range []string{"", "key"} {
		for _, kind := range [][]byte{{0, 2}, {1, 0}, {1, 1}, {255, 254}} {
			b := bytesOf(with(ack(), func(p *packet.Packet) { p.Auth = auth }))
			copy(b[14:], kind)
			wantRefused(t, "another kind", summed(b), auth, api.ErrAuth)
			wantRefused(t, "another kind, not in the sum", b, auth, api.ErrSum)
		}
	}
	b := bytesOf(ack())
	b[23] = 1
	wantRefused(t, "bytes where there is no key", b, "", api.ErrAuth)
	b[15] = 1
	wantRefused(t, "the same with a key's kind", summed(b), "\x00\x00\x00\x00\x00\x00\x00\x01", api.ErrForm)
}

// P11.1: the errors in their order.
func TestGetInOrder(t *testing.T) {
	b := bytesOf(with(update(router(1)), func(p *packet.Packet) { p.Auth = "key" }))
	wrong := func(at int, v byte) { b[at] = v }
	wrong(60, 99) // the Lsa's sum
	b = summed(b)
	wantRefused(t, "an Lsa's sum", b, "key", api.ErrSum)
	wantRefused(t, "a key ahead of it", b, "kay", api.ErrAuth)
	wrong(27, 21)
	b = summed(b)
	wantRefused(t, "its count ahead of the Lsa's sum", b, "key", api.ErrForm)
	wantRefused(t, "the key ahead of the count", b, "", api.ErrAuth)
	wrong(27, 20)
	wantRefused(t, "the sum ahead of the key", b, "", api.ErrSum)
	wrong(3, 1)
	wantRefused(t, "the count ahead of the sum", b, "", api.ErrForm)
	wrong(0, 3)
	wantRefused(t, "too few bytes ahead of all", b[:23], "", api.ErrShort)
	wantRefused(t, "the version", b[:24], "", api.ErrForm)
}

// P11.1
func TestGetOfTooFewBytes(t *testing.T) {
	for _, p := range []packet.Packet{hello(1, 2), database(7, head(1), head(2)), request(key(1), key(2)), update(router(1), summary(2)), ack(head(1), head(2))} {
		b := bytesOf(p)
		whole := map[int]int{}
		for n := range 2 {
			less := p
			less.Hello.Neighbors, less.Heads, less.Keys = p.Hello.Neighbors[:min(n, len(p.Hello.Neighbors))], p.Heads[:min(n, len(p.Heads))], p.Keys[:min(n, len(p.Keys))]
			whole[len(bytesOf(less))] = n
		}
		for n := range b {
			want := api.ErrForm
			if n < 24 {
				want = api.ErrShort
			}
			wantRefused(t, "too few bytes", b[:n:n], p.Auth, want)
			wantRefused(t, "too few bytes, with room", b[:n], p.Auth, want)
			if _, ok := whole[n]; n < 24 || ok && p.Type != packet.Update {
				continue
			}
			wantRefused(t, "too few bytes, counted", sealed(b[:n]), p.Auth, want)
		}
		for _, n := range []int{1, 2, 3, 5, 65536} {
			more := append(slices.Clone(b), make([]byte, n)...)
			wantRefused(t, "more bytes", summed(more), p.Auth, api.ErrForm)
			wantRefused(t, "more bytes, counted", sealed(more), p.Auth, api.ErrForm)
		}
	}
	wantRefused(t, "nil", nil, "", api.ErrShort)
}

// P11.1: each byte of what a packet tells that stands fast, and each number's edge, with a sum that is right.
func TestGetOfNone(t *testing.T) {
	for what, a := range map[string]struct {
		p      packet.Packet
		at     int
		values []byte
	}{
		"version 1": {hello(), 0, []byte{1}}, "type 0": {ack(), 1, []byte{0}}, "type 6": {ack(), 1, []byte{6}}, "type 255": {request(), 1, []byte{255}},
		"an ack as a greeting": {ack(), 1, []byte{1}}, "a greeting's options": {hello(1), 30, []byte{0}}, "interval 0": {hello(1), 28, []byte{0, 0}},
		"dead 0": {hello(1), 35, []byte{0}}, "dead 65536": {hello(1), 32, []byte{0, 1, 0, 0}}, "dead 2^31": {hello(1), 32, []byte{128, 0, 0, 1}},
		"a database's size": {database(7), 24, []byte{0, 0}}, "a database's options": {database(7), 26, []byte{0x42}}, "flags of 8": {database(7), 27, []byte{8}},
		"a head's options": {database(7, head(1)), 34, []byte{0}}, "an ack's options": {ack(head(0), head(1)), 46, []byte{3}},
		"a key's type": {request(key(1)), 26, []byte{1, 0}}, "a key's great type": {request(key(1)), 24, []byte{128, 0, 0, 1}},
	} {
		b := bytesOf(a.p)
		copy(b[a.at:], a.values)
		wantRefused(t, what, summed(b), a.p.Auth, api.ErrForm)
	}
	for what, p := range map[string]packet.Packet{"21 neighbors": hello(some(21, number)...), "21 heads": database(0, some(21, head)...), "21 keys": request(some(21, key)...),
		"21 lsas": update(some(21, summary)...), "21 acks": ack(some(21, head)...), "very many acks": ack(some(3000, func(int) lsa.Header { return head(1) })...)} {
		wantRefused(t, what, bytesOf(p), p.Auth, api.ErrForm)
	}
	for kind := range 256 {
		b := bytesOf(ack())
		b[1] = byte(kind)
		if kind == packet.Ack || kind == packet.Request {
			continue // of nothing
		}
		wantRefused(t, "a type", summed(b), "", api.ErrForm)
	}
}

// P11.1: an Update's count, and its Lsas one by one.
func TestGetOfWrongUpdates(t *testing.T) {
	good := update(router(1), summary(2)) // at 28 and 64
	turn := func(at int, values ...byte) []byte {
		b := bytesOf(good)
		copy(b[at:], values)
		return summed(b)
	}
	for what, a := range map[string]struct {
		b    []byte
		want api.Errno
	}{
		"no count":                         {sealed(bytesOf(good)[:24]), api.ErrForm},
		"a part of the count":              {sealed(bytesOf(good)[:27]), api.ErrForm},
		"a count of 21":                    {turn(24, 0, 0, 0, 21), api.ErrForm},
		"a count of 2^31":                  {turn(24, 128, 0, 0, 2), api.ErrForm},
		"a count of all bits":              {turn(24, 255, 255, 255, 255), api.ErrForm},
		"one more than there are":          {turn(27, 3), api.ErrForm},
		"one less":                         {turn(27, 1), api.ErrForm},
		"none of them":                     {turn(27, 0), api.ErrForm},
		"19 bytes left":                    {sealed(bytesOf(good)[:83]), api.ErrForm},
		"20 bytes left":                    {sealed(bytesOf(good)[:84]), api.ErrForm},
		"a size of 19":                     {turn(46, 0, 19), api.ErrForm},
		"a size of 0":                      {turn(46, 0, 0), api.ErrForm},
		"a size of 20, with a wrong sum":   {turn(46, 0, 20), api.ErrSum},
		"a size above what is left":        {turn(64+18, 0, 29), api.ErrForm},
		"the first's size above all":       {turn(46, 0, 65), api.ErrForm},
		"the first's size to the end":      {turn(46, 0, 64), api.ErrSum},
		"a sum that isn't right":           {turn(50, 9), api.ErrSum},
		"the second's sum":                 {turn(91, 9), api.ErrSum},
		"the first's sum, the second's":    {turn(50, append(append([]byte{9}, bytesOf(good)[51:82]...), 0, 0)...), api.ErrSum},
		"the first is none's":              {turn(28, 255), api.ErrForm},
		"the first is none's, the next's":  {turn(28, append(append([]byte{255}, bytesOf(good)[29:91]...), 9)...), api.ErrForm},
		"the second is none's":             {turn(64, 255), api.ErrForm},
		"a wrong sum, and bytes behind":    {sealed(append(turn(91, 9), 0, 0)), api.ErrSum},
		"bytes behind":                     {sealed(append(turn(91, bytesOf(good)[91]), 0, 0)), api.ErrForm},
		"a wrong sum, and one that misses": {turn(24, append([]byte{0, 0, 0, 3}, append(bytesOf(good)[28:50], 9)...)...), api.ErrSum},
	} {
		wantRefused(t, what, a.b, "k", a.want)
	}
	b := bytesOf(with(update(summary(1)), func(p *packet.Packet) { p.Auth = "k" }))
	b[55] ^= 1
	wantRefused(t, "an Lsa's sum ahead of a key with a nought", summed(b), "k\x00", api.ErrSum)
	wantRefused(t, "a key with a nought", bytesOf(update(summary(1))), "k\x00", api.ErrForm)
}

// P11.1: a sum of noughts alone is told in one way.
func TestGetOfSums(t *testing.T) {
	var b []byte
	for n := range 65536 {
		p := packet.Packet{Type: packet.Ack, Area: uint32(n)}
		if b = bytesOf(p); b[12] == 0 && b[13] == 0 {
			wantGot(t, "a sum of noughts", b, p)
			break
		}
	}
	if b[12] != 0 || b[13] != 0 {
		t.Fatal("none has such a sum")
	}
	b[12], b[13] = 255, 255
	wantRefused(t, "all bits in place of none", b, "", api.ErrSum)
	for _, p := range []packet.Packet{hello(1), database(7, head(1)), request(key(1)), update(network()), ack(head(1))} {
		b := bytesOf(p)
		for at := range b {
			want := api.ErrSum
			switch {
			case at == 0 || at == 2 || at == 3:
				want = api.ErrForm
			case at >= 16 && at < 24:
				want = api.ErrAuth // the key isn't in the sum
			}
			for _, bit := range []byte{1, 128} {
				b[at] ^= bit
				wantRefused(t, "a bit is turned", b, p.Auth, want)
				b[at] ^= bit
			}
		}
		wantGot(t, "turned back", b, p)
	}
}

// P11.1, P1, P7: of any bytes Get tells an error, or what is put as they.
func TestGetOfAnyBytes(t *testing.T) {
	r := rand.New(rand.NewSource(2))
	seen := map[api.Errno]int{}
	for range 30000 {
		p := anyPacket(r)
		b := bytesOf(p)
		for range r.Intn(4) {
			at := r.Intn(len(b))
			if r.Intn(2) == 0 {
				at = r.Intn(min(len(b), 60))
			}
			b[at] = []byte{0, 1, 2, 3, 255, byte(r.Intn(256))}[r.Intn(6)]
		}
		if r.Intn(8) == 0 {
			b = b[:r.Intn(len(b))]
		}
		if len(b) >= 24 && r.Intn(4) > 0 {
			b = sealed(b)
		}
		auth := []string{p.Auth, p.Auth, p.Auth, p.Auth, "", "a", "key\x00", "123456789"}[r.Intn(8)]
		want := told(b, auth)
		seen[want]++
		if want != api.OK {
			wantRefused(t, "any bytes", b, auth, want)
		} else if q, e := packet.Get(b, auth); e != api.OK || q.Auth != auth || !bytes.Equal(bytesOf(q), b) {
			t.Errorf("%x: error %d, got as %v", b, e, q)
		}
		if t.Failed() {
			return
		}
	}
	for _, e := range []api.Errno{api.OK, api.ErrShort, api.ErrForm, api.ErrSum, api.ErrAuth} {
		if seen[e] < 500 {
			t.Errorf("error %d was met %d times alone", e, seen[e])
		}
	}
}

// P11.3
func TestNothingIsKeptOrChanged(t *testing.T) {
	for _, p := range rights() {
		room := withRoom(p)
		b, _ := packet.Put(room)
		want := bytesOf(p)
		clear(b[:cap(b)])
		wantRoom(t, room, p)
		given := append(slices.Clone(want), 88, 88)
		one, _ := packet.Get(given[:len(want)], p.Auth)
		two, _ := packet.Get(given[:len(want)], p.Auth)
		if !bytes.Equal(given, append(slices.Clone(want), 88, 88)) {
			t.Errorf("what was handed in is changed: %x", given)
		}
		clear(given)
		clear(two.Heads[:cap(two.Heads)])
		clear(two.Keys[:cap(two.Keys)])
		clear(two.Hello.Neighbors[:cap(two.Hello.Neighbors)])
		for i, l := range two.Lsas {
			clear(l.Links[:cap(l.Links)])
			clear(l.Routers[:cap(l.Routers)])
			if i+1 < len(two.Lsas) && !same(packet.Packet{Lsas: two.Lsas[i+1:]}, packet.Packet{Lsas: p.Lsas[i+1:]}) {
				t.Errorf("two lists of one answer share memory: %v", p)
			}
		}
		clear(two.Lsas[:cap(two.Lsas)])
		if !same(one, p) {
			t.Errorf("what was got is changed: %v, was %v", one, p)
		}
	}
}

// withRoom is p with lists behind which there is room, in which a stray write would be seen.
func withRoom(p packet.Packet) packet.Packet {
	p.Hello.Neighbors = append(slices.Clone(p.Hello.Neighbors), 77)[:len(p.Hello.Neighbors)]
	p.Heads = append(slices.Clone(p.Heads), head(77))[:len(p.Heads)]
	p.Keys = append(slices.Clone(p.Keys), key(77))[:len(p.Keys)]
	p.Lsas = append(slices.Clone(p.Lsas), summary(77))[:len(p.Lsas)]
	return p
}

func wantRoom(t *testing.T, room, p packet.Packet) {
	t.Helper()
	n, h, k, l := len(p.Hello.Neighbors), len(p.Heads), len(p.Keys), len(p.Lsas)
	if !same(room, p) || room.Hello.Neighbors[:n+1][n] != 77 || room.Heads[:h+1][h] != head(77) || room.Keys[:k+1][k] != key(77) || room.Lsas[:l+1][l].Cost != 77 {
		t.Errorf("what was handed in is changed: %v, was %v", room, p)
	}
}
