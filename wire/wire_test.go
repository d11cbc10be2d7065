package wire_test

import (
	"bytes"
	"slices"
	"testing"

	"waystone/wire"
)

func TestLay(t *testing.T) {
	if b := wire.Lay16([]byte{9}, 0x1234); !bytes.Equal(b, []byte{9, 0x12, 0x34}) {
		t.Errorf("%x", b)
	}
	if b := wire.Lay32([]byte{9}, 0x12345678); !bytes.Equal(b, []byte{9, 0x12, 0x34, 0x56, 0x78}) {
		t.Errorf("%x", b)
	}
	if b := wire.LayAll([]byte{9}, []uint32{1, 0xFFFFFF00}); !bytes.Equal(b, []byte{9, 0, 0, 0, 1, 255, 255, 255, 0}) {
		t.Errorf("%x", b)
	}
	if b := wire.LayAll(nil, nil); len(b) != 0 {
		t.Errorf("%x", b)
	}
}

func TestRead(t *testing.T) {
	for _, a := range []struct {
		b    []byte
		want uint32
	}{
		{nil, 0}, {[]byte{7}, 7}, {[]byte{1, 2}, 0x102}, {[]byte{1, 2, 3}, 0x10203}, {[]byte{255, 2, 3, 4}, 0xFF020304}, {[]byte{9, 1, 2, 3, 4}, 0x1020304},
	} {
		if n := wire.Read(a.b); n != a.want {
			t.Errorf("%x: %x", a.b, n)
		}
	}
}

func TestReadAll(t *testing.T) {
	b := []byte{0, 0, 0, 1, 2, 0, 0, 0, 3, 3, 3}
	for n, want := range [][]uint32{{}, {}, {}, {}, {1}, {1}, {1}, {1}, {1, 0x2000000}, {1, 0x2000000}, {1, 0x2000000}, {1, 0x2000000}} {
		if l := wire.ReadAll(b[:n]); !slices.Equal(l, want) {
			t.Errorf("of %d bytes: %x", n, l)
		}
	}
}
