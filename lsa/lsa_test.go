package lsa_test

import (
	"bytes"
	"math/rand"
	"slices"
	"strings"
	"testing"

	"waystone/api"
	"waystone/lsa"
)

// P10.1: byte by byte.
func TestPut(t *testing.T) {
	for what, a := range map[string]struct {
		l    lsa.Lsa
		want string
	}{
		"a router": {router(lsa.Link{Id: 0x0A000000, Data: 0xFFFFFF00, Type: 3, Cost: 0x1234}),
			"\x00\x05\x02\x01\x01\x02\x03\x04\x01\x02\x03\x04\x80\x00\x00\x01SS\x00\x24\x00\x00\x00\x01\x0A\x00\x00\x00\xFF\xFF\xFF\x00\x03\x00\x12\x34"},
		"a router without links": {with(router(), func(l *lsa.Lsa) { l.Age = 3600 }),
			"\x0E\x10\x02\x01\x01\x02\x03\x04\x01\x02\x03\x04\x80\x00\x00\x01SS\x00\x18\x00\x00\x00\x00"},
		"a network": {network(0x05060708, 9),
			"\x00\x01\x02\x02\x0A\x00\x00\x01\x01\x02\x03\x04\x00\x00\x00\x07SS\x00\x20\xFF\xFF\xFF\x00\x05\x06\x07\x08\x00\x00\x00\x09"},
		"a summary": {summary(0x123456),
			"\x00\x00\x02\x03\x0A\x00\x00\x00\x01\x02\x03\x04\xFF\xFF\xFF\xFFSS\x00\x1C\xFF\xFF\x00\x00\x00\x12\x34\x56"},
	} {
		b, e := lsa.Put(a.l)
		if want := summed([]byte(a.want)); e != api.OK || !bytes.Equal(b, want) {
			t.Errorf("%s: error %d\n got %x\nwant %x", what, e, b, want)
		}
		if strings.Index(a.want, "SS") != 16 {
			t.Errorf("%s: the test's own bytes", what)
		}
	}
}

// P10.1, P10.2, P7
func TestGetWhatIsPut(t *testing.T) {
	r := rand.New(rand.NewSource(1))
	all := rights()
	for range 500 {
		all = append(all, anyLsa(r))
	}
	for _, l := range all {
		b, e := lsa.Put(l)
		if want := bytesOf(l); e != api.OK || !bytes.Equal(b, want) {
			t.Fatalf("Put(%v): error %d\n got %x\nwant %x", l, e, b, want)
		}
		wantGot(t, "what is put", b, l)
	}
}

// P10.1
func TestPutWhatCannotBe(t *testing.T) {
	for what, l := range wrongs() {
		if b, e := lsa.Put(l); e != api.ErrArg || len(b) != 0 {
			t.Errorf("%s: Put: error %d, %x", what, e, b)
		}
	}
}

// P10.1: what isn't cut off by the sizes of its numbers is seen when it is got, too.
func TestGetOfWhatCannotBe(t *testing.T) {
	all := wrongs()
	for _, what := range []string{"nothing", "type 0", "type 4", "a type below 0", "an age below 0", "an age of 3601", "a number too small", "a number too great",
		"a router with 41 links", "a link of type 0", "a link of type 5", "a network without routers", "a network with 41 routers"} {
		l, ok := all[what]
		if !ok {
			t.Fatal(what)
		}
		wantRefused(t, what, bytesOf(l), api.ErrForm)
	}
}

// P10.1
func TestGetOfTooFewBytes(t *testing.T) {
	b := bytesOf(router(links(2)...))
	wantRefused(t, "nil", nil, api.ErrShort)
	for n := range b {
		want := api.ErrSum
		if n < 20 {
			want = api.ErrShort
		}
		if c0, c1 := weights(b[min(2, n):n]); n >= 20 && c0 == 0 && c1 == 0 {
			want = api.ErrForm
		}
		wantRefused(t, "too few bytes", b[:n:n], want)
		wantRefused(t, "too few bytes, with others behind", b[:n], want)
		if n >= 20 {
			wantRefused(t, "too few bytes, with their sum", summed(b[:n]), api.ErrForm)
			wantRefused(t, "too few bytes, with their sum and count", sealed(b[:n]), api.ErrForm)
		}
	}
	for _, n := range []int{1, 2, 4, 8, 12, 24} {
		more := append(slices.Clone(b), make([]byte, n)...)
		wantRefused(t, "more bytes", summed(more), api.ErrForm)
		wantRefused(t, "more bytes, counted", sealed(more), api.ErrForm)
	}
}

// P10.1: each field's errors, with a sum that is right.
func TestGetOfNone(t *testing.T) {
	one, two := router(links(2)...), network(3, 4)
	for what, a := range map[string]struct {
		l     lsa.Lsa
		at    int
		value byte
	}{
		"options 0": {one, 2, 0}, "options 3": {one, 2, 3}, "type 0": {one, 3, 0}, "type 4": {one, 3, 4}, "a summary's type": {one, 3, 3},
		"a router's type": {two, 3, 1}, "a count too small": {one, 19, 47}, "a count too great": {one, 19, 49}, "a count of more than all": {one, 18, 255},
		"flags": {one, 20, 1}, "more flags": {one, 21, 1}, "more links than there are": {one, 23, 3}, "fewer links": {one, 23, 1}, "256 links more": {one, 22, 1},
		"a link of type 0": {one, 32, 0}, "a link of type 5": {one, 32, 5}, "a link's nought": {one, 33, 1}, "the last link's nought": {one, 45, 9},
		"a summary's nought": {summary(5), 24, 1}, "an age too great": {one, 0, 15}, "an age of 3601": {with(one, func(l *lsa.Lsa) { l.Age = 3600 }), 1, 17}, "an age of 65535": {with(one, func(l *lsa.Lsa) { l.Age = 255 }), 0, 255},
	} {
		b := bytesOf(a.l)
		b[a.at] = a.value
		wantRefused(t, what, summed(b), api.ErrForm)
	}
	first := bytesOf(with(one, func(l *lsa.Lsa) { l.Seq = api.FirstSeq - 1 }))
	wantRefused(t, "a number too small", first, api.ErrForm)
	wantRefused(t, "a network without routers", sealed(bytesOf(two)[:24]), api.ErrForm)
	wantRefused(t, "a header alone", sealed(bytesOf(one)[:20]), api.ErrForm)
	wantRefused(t, "41 links", bytesOf(router(links(41)...)), api.ErrForm)
	wantRefused(t, "41 routers", bytesOf(network(numbers(41)...)), api.ErrForm)
	wantRefused(t, "65536 bytes more than are counted", summed(append(bytesOf(one), make([]byte, 65536)...)), api.ErrForm)
}

// P10.1: the sum is looked at ahead of the form.
func TestGetOfWrongSums(t *testing.T) {
	for what, l := range wrongs() {
		b := bytesOf(l)
		b[17]++
		wantRefused(t, what+", with a wrong sum", b, api.ErrSum)
	}
	wantRefused(t, "noughts", make([]byte, 20), api.ErrForm)
	wantRefused(t, "noughts but one", append(make([]byte, 20), 1), api.ErrSum)
}

// ofSum is an Lsa of which a byte of the sum is 0.
func ofSum(t *testing.T, r *rand.Rand, at int) []byte {
	t.Helper()
	for range 20000 {
		l := summary(r.Intn(1 << 24))
		if b := bytesOf(l); b[at] == 0 {
			return b
		}
	}
	t.Fatal("none has such a sum")
	return nil
}

// P10.1, P10.2: 255 in a sum is as 0, but never put.
func TestGetOf255InASum(t *testing.T) {
	r := rand.New(rand.NewSource(2))
	for _, at := range []int{16, 17} {
		b := ofSum(t, r, at)
		if _, e := lsa.Get(b); e != api.OK {
			t.Fatal(e)
		}
		b[at] = 255
		if c0, c1 := weights(b[2:]); c0 != 0 || c1 != 0 {
			t.Fatal("the test's own bytes")
		}
		wantRefused(t, "255 in the sum", b, api.ErrSum)
	}
	b := bytes.Repeat([]byte{255}, 40)
	wantRefused(t, "255 everywhere", b, api.ErrSum)
}

// P10.2: each byte behind the age, turned to each other value.
func TestTurnedBytes(t *testing.T) {
	for _, l := range []lsa.Lsa{router(links(2)...), network(1, 0xFF00FF00), summary(0xFF00FF)} {
		b := bytesOf(l)
		for at := 2; at < len(b); at++ {
			was := b[at]
			for v := range 256 {
				alike := was == 0 && v == 255 || was == 255 && v == 0
				if byte(v) == was || alike {
					continue
				}
				b[at] = byte(v)
				wantRefused(t, "a byte is turned", b, api.ErrSum)
			}
			b[at] = was
		}
		wantGot(t, "turned back", b, l)
	}
	// the age isn't in the sum, as it rises on its way
	b := bytesOf(router())
	b[0], b[1] = 0x0E, 0x10
	wantGot(t, "another age", b, with(router(), func(l *lsa.Lsa) { l.Age = 3600 }))
	// where 0 and 255 are alike, it is another one's, or none's
	b = bytesOf(summary(0xFF00FF))
	b[25] = 0
	wantGot(t, "255 turned to 0", b, summary(0x0000FF))
	b[24] = 255
	wantRefused(t, "a nought turned to 255", b, api.ErrForm)
}

// told tells what Get should tell of bytes, field by field.
func told(b []byte) api.Errno {
	if len(b) < 20 {
		return api.ErrShort
	}
	if c0, c1 := weights(b[2:]); c0 != 0 || c1 != 0 || b[16] == 255 || b[17] == 255 {
		return api.ErrSum
	}
	first := b[12] == 0x80 && b[13] == 0 && b[14] == 0 && b[15] == 0
	if int(b[0])*256+int(b[1]) > 3600 || b[2] != 2 || first || int(b[18])*256+int(b[19]) != len(b) {
		return api.ErrForm
	}
	body := b[20:]
	ok := false
	switch b[3] {
	case 1:
		ok = len(body) >= 4 && body[0] == 0 && body[1] == 0 && body[2] == 0 && body[3] <= 40 && len(body) == 4+12*int(body[3])
		for at := 4; ok && at < len(body); at += 12 {
			ok = body[at+8] >= 1 && body[at+8] <= 4 && body[at+9] == 0
		}
	case 2:
		ok = len(body) >= 8 && len(body) <= 164 && len(body)%4 == 0
	case 3:
		ok = len(body) == 8 && body[4] == 0
	}
	if !ok {
		return api.ErrForm
	}
	return api.OK
}

// P10.1, P10.2, P1: of any bytes Get tells an error, or what is put as they.
func TestGetOfAnyBytes(t *testing.T) {
	r := rand.New(rand.NewSource(3))
	seen := map[api.Errno]int{}
	for range 20000 {
		l := anyLsa(r)
		if r.Intn(2) == 0 {
			l.Links, l.Routers = l.Links[:min(len(l.Links), 2)], l.Routers[:min(len(l.Routers), 2)]
		}
		b := bytesOf(l)
		for range r.Intn(3) {
			b[r.Intn(len(b))] = []byte{0, 1, 2, 3, 255, byte(r.Intn(256))}[r.Intn(6)]
		}
		if r.Intn(8) == 0 {
			b = b[:r.Intn(len(b))]
		}
		if len(b) >= 20 && r.Intn(2) == 0 {
			b = sealed(b)
		} else if len(b) >= 20 && r.Intn(2) == 0 {
			b = summed(b)
		}
		want := told(b)
		seen[want]++
		if want != api.OK {
			wantRefused(t, "any bytes", b, want)
		} else if l, e := lsa.Get(b); e != api.OK || !bytes.Equal(bytesOf(l), b) {
			t.Errorf("%x: error %d, got as %v", b, e, l)
		}
		if t.Failed() {
			return
		}
	}
	for _, e := range []api.Errno{api.OK, api.ErrShort, api.ErrSum, api.ErrForm} {
		if seen[e] < 500 {
			t.Errorf("error %d was met %d times alone", e, seen[e])
		}
	}
}
