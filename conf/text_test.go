package conf_test

import (
	"bytes"
	"math/rand"
	"slices"
	"strings"
	"testing"

	"waystone/api"
	"waystone/conf"
)

// P5.1
func TestText(t *testing.T) {
	for _, a := range []struct {
		c    conf.Conf
		want []string
	}{
		{nil, nil},
		{conf.Conf{top("1.2.3.4")}, []string{"router-id 1.2.3.4;"}},
		{conf.Conf{area("0.0.0.0", "type", "stub")}, []string{"area 0.0.0.0 {", "  type stub;", "}"}},
		{small(), []string{"router-id 1.2.3.4;", "area 0.0.0.0 {", "  cost 7;", "}", "area 0.0.0.1 {", "  type stub;", "}",
			"interface eth0 {", "  address 10.0.0.1/24;", "  cost 5;", "}", "interface eth1 {", "  area 0.0.0.1;", "}"}},
		{conf.Conf{area("1.1.1.1", "cost", "0"), face("1.1.1.1", "cost", "1")},
			[]string{"area 1.1.1.1 {", "  cost 0;", "}", "interface 1.1.1.1 {", "  cost 1;", "}"}},
	} {
		want := strings.Join(append(a.want, ""), "\n")
		if s := conf.Text(a.c); s != want {
			t.Errorf("%q, want %q", s, want)
		}
	}
}

// bytesOf is a configuration's bytes as the document lays them.
func bytesOf(l ...conf.Line) []byte {
	var b bytes.Buffer
	for _, x := range l {
		b.WriteByte(byte(x.Head))
		for _, s := range []string{x.Name, x.Leaf, x.Value} {
			b.WriteByte(byte(len(s)))
			b.WriteString(s)
		}
	}
	return b.Bytes()
}

// P5.1
func TestPut(t *testing.T) {
	if b, e := conf.Put(nil); e != api.OK || len(b) != 0 {
		t.Error("nothing:", b, e)
	}
	want := []byte("\x00\x00\x09router-id\x071.2.3.4\x02\x04eth0\x04cost\x015")
	if b, e := conf.Put(conf.Conf{top("1.2.3.4"), face("eth0", "cost", "5")}); e != api.OK || !bytes.Equal(b, want) {
		t.Errorf("error %d, %q", e, b)
	}
	long := conf.Conf{face(strings.Repeat("e", 31), "address", "255.255.255.255/32")}
	if b, e := conf.Put(long); e != api.OK || !bytes.Equal(b, bytesOf(long...)) {
		t.Errorf("error %d, %q", e, b)
	}
}

// P5.2
func TestGetWhatIsPut(t *testing.T) {
	r := rand.New(rand.NewSource(2))
	all := []conf.Conf{nil, small(), costs(1), costs(63), costs(64)}
	for range 300 {
		all = append(all, anyConf(r, 64))
	}
	for _, c := range all {
		b, e := conf.Put(c)
		if e != api.OK || !bytes.Equal(b, bytesOf(c...)) {
			t.Fatalf("Put(%v): error %d", c, e)
		}
		d, e := conf.Get(b)
		wantConf(t, "Get", d, e, c)
	}
}

// P5.1: each place at which bytes may end.
func TestGetOfTooFewBytes(t *testing.T) {
	b, _ := conf.Put(small())
	whole := map[int]int{}
	for n := range small() {
		whole[len(bytesOf(small()[:n]...))] = n
	}
	for end := range b {
		c, e := conf.Get(b[:end:end])
		if n, ok := whole[end]; ok {
			wantConf(t, "at a line's end", c, e, small()[:n])
		} else {
			wantError(t, "too few bytes", c, e, api.ErrShort)
		}
	}
}

// P5.1
func TestGetOfNone(t *testing.T) {
	for what, wrong := range wrongs() {
		if wrong[0].Head == 256 {
			continue // a byte doesn't hold it
		}
		b := bytesOf(wrong...)
		c, e := conf.Get(b)
		wantError(t, what, c, e, api.ErrForm)
		// that bytes end too early is looked for first
		for _, more := range []string{"\x02", "\x02\x01e\x04cos", "\x00\x00\x00\x01"} {
			c, e = conf.Get(append(slices.Clone(b), more...))
			wantError(t, what+", and too few bytes", c, e, api.ErrShort)
		}
	}
	for _, s := range []string{"\x00\x00\x00\x00", "\x03\x00\x09router-id\x071.2.3.4", "\x00\x00\x09router-id\x081.2.3.4 ", "\x00\x01 \x09router-id\x071.2.3.4"} {
		c, e := conf.Get([]byte(s))
		wantError(t, s, c, e, api.ErrForm)
	}
	c, e := conf.Get(make([]byte, 4*100000))
	wantError(t, "noughts", c, e, api.ErrForm)
	c, e = conf.Get(make([]byte, 4*100000+1))
	wantError(t, "noughts, and too few", c, e, api.ErrShort)
}

// P5.1, P5.2: of any bytes Get tells an error, or what is put as they.
func TestGetOfAnyBytes(t *testing.T) {
	r := rand.New(rand.NewSource(3))
	for range 20000 {
		b := bytesOf(anyConf(r, 6)...)
		for range r.Intn(3) {
			if len(b) > 0 {
				b[r.Intn(len(b))] ^= 1 << r.Intn(8)
			}
		}
		before := slices.Clone(b)
		c, e := conf.Get(b)
		if !bytes.Equal(b, before) {
			t.Fatal("the bytes are changed")
		}
		if e == api.ErrShort || e == api.ErrForm {
			wantError(t, "Get", c, e, e)
			continue
		}
		if again, e := conf.Put(c); e != api.OK || !bytes.Equal(again, b) {
			t.Fatalf("%q is got as %v", b, c)
		}
	}
}

// P5.3
func TestGetKeepsNothing(t *testing.T) {
	b := bytesOf(small()...)
	c, e := conf.Get(b)
	for i := range b {
		b[i] = 'x'
	}
	wantConf(t, "Get", c, e, small())
}
