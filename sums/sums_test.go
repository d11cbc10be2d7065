package sums_test

import (
	"bytes"
	"encoding/hex"
	"math"
	"math/rand"
	"strings"
	"testing"

	"waystone/sums"
)

// hexed is the bytes that digits of base 16 tell.
func hexed(t *testing.T, s string) []byte {
	t.Helper()
	b, err := hex.DecodeString(strings.ReplaceAll(s, " ", ""))
	if err != nil {
		t.Fatal(err)
	}
	return b
}

func anyBytes(r *rand.Rand, n int) []byte {
	b := make([]byte, n)
	for i := range b {
		b[i] = byte(r.Intn(256))
		if r.Intn(8) == 0 {
			b[i] = byte(255 * r.Intn(2))
		}
	}
	return b
}

// P9.1
func TestInternet(t *testing.T) {
	for _, a := range []struct {
		b    string
		want uint16
	}{
		{"", 0xFFFF}, {"00", 0xFFFF}, {"0000", 0xFFFF}, {"01", 0xFEFF}, {"0001", 0xFFFE}, {"FF", 0x00FF}, {"FFFF", 0}, {"FFFF 0000", 0}, {"FFFF FFFF", 0},
		{"0001 F203 F4F5 F6F7", 0x220D}, {"0001 F203 F4F5 F6F7 220D", 0}, {"0001 F203 F4F5 F6", 0x2304},
		{"8000 8000", 0xFFFE}, {"FFFF 0001", 0xFFFE}, {"FFFE 0001", 0}, {"FFFE 0003", 0xFFFD}, {"FF FF 01", 0xFEFF}, {"0102 03", 0xFBFD},
		// a greeting of a real router, without its key and its sum, and with its sum
		{"0201002C C0A8AA08 00000001 0000 0000 FFFFFF00 000A0201 00000028 C0A8AA08 00000000", 0x273B},
		{"0201002C C0A8AA08 00000001 273B 0000 FFFFFF00 000A0201 00000028 C0A8AA08 00000000", 0},
	} {
		if n := sums.Internet(hexed(t, a.b)); n != a.want {
			t.Errorf("%s: %04X, want %04X", a.b, n, a.want)
		}
	}
}

// roundAdded adds what is beyond 16 bits again at each step.
func roundAdded(b []byte) uint16 {
	sum := 0
	for i, c := range b {
		if i%2 == 0 {
			sum += int(c) * 256
		} else {
			sum += int(c)
		}
		if sum > 0xFFFF {
			sum = sum - 0x10000 + 1
		}
	}
	return 0xFFFF - uint16(sum)
}

// P9.1
func TestInternetOfAnyBytes(t *testing.T) {
	r := rand.New(rand.NewSource(1))
	for range 3000 {
		b := anyBytes(r, r.Intn(100))
		if n := sums.Internet(b); n != roundAdded(b) {
			t.Fatalf("%x: %04X, want %04X", b, n, roundAdded(b))
		}
	}
}

// P9.1: so many bytes that a sum of 32 bits would be too small for them.
func TestSumsOfManyBytes(t *testing.T) {
	for _, n := range []int{65535, 131073, 131074, 131076, 131080, 400001} {
		for _, c := range []byte{0, 1, 254, 255} {
			b := bytes.Repeat([]byte{c}, n)
			if got := sums.Internet(b); got != roundAdded(b) {
				t.Errorf("%d times %d: %04X, want %04X", n, c, got, roundAdded(b))
			}
			if sums.Right(b) != weighed(b) {
				t.Errorf("%d times %d: Right", n, c)
			}
			for _, at := range []int{0, 1, n / 2, n - 3, n - 2} {
				wantFletcher(t, b, at)
			}
		}
	}
}

// weighed tells Right by the weight that each byte has in c1: how many bytes there are from it on.
func weighed(b []byte) bool {
	var c0, c1 uint64
	for i, c := range b {
		c0 += uint64(c)
		c1 += uint64(len(b)-i) * uint64(c)
	}
	return c0%255 == 0 && c1%255 == 0
}

// P9.1
func TestRight(t *testing.T) {
	for s, want := range map[string]bool{
		"": true, "00": true, "FF": true, "0000": true, "FFFF": true, "00FF": true, "FF00": true, "01": false, "FE": false, "01FE": false, "FE01": false,
		"01FD01": true, "02FB02": true, "01FE00": false, "0001FD01": true, "01FD0100": true, "01FD01FF": true, "01FD02": false, "02FD01": false, "8080": false,
		// what a real router tells of itself, behind its age
		"0201 C0A8AA08 C0A8AA08 80000DC3 2506 0024 02000001 C0A8AA00 FFFFFF00 0300000A": true,
		"0201 C0A8AA08 C0A8AA08 80000DC3 2506 0024 02000001 C0A8AA00 FFFFFF00 0300000B": false,
		"0201 A8C0AA08 C0A8AA08 80000DC3 2506 0024 02000001 C0A8AA00 FFFFFF00 0300000A": false,
	} {
		if sums.Right(hexed(t, s)) != want {
			t.Errorf("%s: %v", s, !want)
		}
	}
}

// P9.1
func TestRightOfAnyBytes(t *testing.T) {
	r := rand.New(rand.NewSource(2))
	for range 20000 {
		b := make([]byte, r.Intn(9))
		for i := range b {
			b[i] = []byte{0, 1, 127, 128, 254, 255}[r.Intn(6)]
		}
		if sums.Right(b) != weighed(b) {
			t.Fatalf("%x: %v", b, !weighed(b))
		}
	}
}

// wantFletcher asks whether the two bytes are within bounds, make b right, and hang on nothing that stands in their places.
func wantFletcher(t *testing.T, b []byte, at int) {
	t.Helper()
	x, y := sums.Fletcher(b, at)
	c := bytes.Clone(b)
	c[at], c[at+1] = x, y
	if x == 255 || y == 255 || !weighed(c) || !sums.Right(c) {
		t.Errorf("%d bytes, at %d: %d, %d", len(b), at, x, y)
	}
	if x2, y2 := sums.Fletcher(c, at); x2 != x || y2 != y {
		t.Errorf("%d bytes, at %d: %d, %d, and then %d, %d", len(b), at, x, y, x2, y2)
	}
}

// P9.1
func TestFletcher(t *testing.T) {
	for _, a := range []struct {
		b    string
		at   int
		x, y byte
	}{
		{"0000", 0, 0, 0}, {"1234", 0, 0, 0}, {"FFFF", 0, 0, 0}, {"010000", 1, 253, 1}, {"010000", 0, 0, 0}, {"000001", 0, 1, 253}, {"00000001", 1, 1, 253}, {"0000FF", 0, 0, 0}, {"000002", 0, 2, 251},
		{"0201 C0A8AA08 C0A8AA08 80000DC3 0000 0024 02000001 C0A8AA00 FFFFFF00 0300000A", 14, 0x25, 0x06},
	} {
		if x, y := sums.Fletcher(hexed(t, a.b), a.at); x != a.x || y != a.y {
			t.Errorf("%s at %d: %d, %d", a.b, a.at, x, y)
		}
	}
}

// P9.1: at each place, of as many bytes as there are numbers in the sums' ring, and more.
func TestFletcherAtEachPlace(t *testing.T) {
	r := rand.New(rand.NewSource(3))
	for n := range 30 {
		b := anyBytes(r, n)
		for at := 0; at < n-1; at++ {
			wantFletcher(t, b, at)
		}
	}
	for _, n := range []int{254, 255, 256, 257, 509, 510, 511, 512, 600} {
		b := anyBytes(r, n)
		for at := 0; at < n-1; at++ {
			wantFletcher(t, b, at)
		}
	}
}

// P9.1: no other two bytes do it.
func TestFletcherIsTheOnlyOne(t *testing.T) {
	r := rand.New(rand.NewSource(4))
	for range 4 {
		b := anyBytes(r, 2+r.Intn(8))
		at := r.Intn(len(b) - 1)
		x, y := sums.Fletcher(b, at)
		for n := range 255 * 255 {
			b[at], b[at+1] = byte(n/255), byte(n%255)
			if sums.Right(b) != (b[at] == x && b[at+1] == y) {
				t.Fatalf("%x at %d: %d, %d", b, at, x, y)
			}
		}
	}
}

// P9.1, P1
func TestFletcherWithoutPlaces(t *testing.T) {
	for n := range 6 {
		b := bytes.Repeat([]byte{7}, n)
		for _, at := range []int{math.MinInt, math.MinInt + 1, -2, -1, n - 1, n, n + 1, math.MaxInt - 1, math.MaxInt} {
			if x, y := sums.Fletcher(b[:n:n], at); x != 0 || y != 0 {
				t.Errorf("%d bytes, at %d: %d, %d", n, at, x, y)
			}
			if x, y := sums.Fletcher(append(b, 9, 9)[:n], at); x != 0 || y != 0 {
				t.Errorf("%d bytes with room, at %d: %d, %d", n, at, x, y)
			}
		}
	}
	if x, y := sums.Fletcher(nil, 0); x != 0 || y != 0 || !sums.Right(nil) || sums.Internet(nil) != 0xFFFF {
		t.Error("nothing")
	}
}

// P9.2
func TestNothingIsKeptOrChanged(t *testing.T) {
	r := rand.New(rand.NewSource(5))
	for n := range 40 {
		room := anyBytes(r, n+4)
		b, before := room[:n], bytes.Clone(room)
		internet, right := sums.Internet(b), sums.Right(b)
		for at := -1; at <= n; at++ {
			x, y := sums.Fletcher(b, at)
			if x2, y2 := sums.Fletcher(b, at); x2 != x || y2 != y {
				t.Errorf("asked again: %d, %d, and then %d, %d", x, y, x2, y2)
			}
		}
		if !bytes.Equal(room, before) {
			t.Errorf("what was handed in is changed: %x, was %x", room, before)
		}
		if sums.Internet(b) != internet || sums.Right(b) != right {
			t.Errorf("asked again, %x has other sums", b)
		}
	}
}
