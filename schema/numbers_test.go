package schema_test

import (
	"fmt"
	"math/rand"
	"strconv"
	"strings"
	"testing"

	"waystone/schema"
)

// P4.1
func TestDecimal(t *testing.T) {
	for s, want := range map[string]int{"0": 0, "1": 1, "9": 9, "10": 10, "65535": 65535, "100000000": 100000000, "999999999": 999999999} {
		if n, ok := schema.Decimal(s); n != want || !ok {
			t.Errorf("%q: %d, %t", s, n, ok)
		}
	}
	for _, s := range []string{"", "00", "01", "000000001", "1000000000", "0000000000", "4294967296", "-1", "+1", " 1", "1 ", "1.0", "1e3", "0x1", "a",
		"1a", "/", ":", "1/", "1:", "1_0", "１", "\x001", strings.Repeat("1", 1000)} {
		if n, ok := schema.Decimal(s); n != 0 || ok {
			t.Errorf("%q: %d, %t", s, n, ok)
		}
	}
}

// P4.1
func TestAddr(t *testing.T) {
	for s, want := range map[string]uint32{"0.0.0.0": 0, "1.2.3.4": 0x01020304, "255.255.255.255": 0xFFFFFFFF, "10.0.0.1": 167772161,
		"0.0.0.1": 1, "0.0.1.0": 256, "0.1.0.0": 65536, "1.0.0.0": 16777216, "128.0.0.0": 1 << 31} {
		if n, ok := schema.Addr(s); n != want || !ok {
			t.Errorf("%q: %d, %t", s, n, ok)
		}
	}
	for _, s := range []string{"", ".", "...", "1.2.3", "1.2.3.", "1.2.3.4.", ".1.2.3.4", "1.2.3.4.5", "1..3.4", "1.2.3.256", "256.2.3.4", "1.2.3.04", "1.2.3.00",
		"1.2.3.4/8", "1.2.3.-4", "1.2.3.+4", " 1.2.3.4", "1.2.3.4 ", "1,2,3,4", "1.2.3.a", "1.2.3.999999999", "1.2.3.4294967300", strings.Repeat("1.", 5000)} {
		if n, ok := schema.Addr(s); n != 0 || ok {
			t.Errorf("%q: %d, %t", s, n, ok)
		}
	}
}

// P4.1
func TestNet(t *testing.T) {
	for s, want := range map[string]struct {
		n      uint32
		length int
	}{"10.0.0.1/24": {167772161, 24}, "0.0.0.0/1": {0, 1}, "255.255.255.255/32": {0xFFFFFFFF, 32}, "1.2.3.4/9": {0x01020304, 9}} {
		if n, length, ok := schema.Net(s); n != want.n || length != want.length || !ok {
			t.Errorf("%q: %d, %d, %t", s, n, length, ok)
		}
	}
	for _, s := range []string{"", "/", "1.2.3.4", "1.2.3.4/", "/24", "1.2.3.4/0", "1.2.3.4/33", "1.2.3.4/024", "1.2.3.4/24/", "1.2.3.4/24/24", "1.2.3.4//24",
		"1.2.3/24", "1.2.3.4.5/24", "1.2.3.256/24", "1.2.3.4/-1", "1.2.3.4/a", "1.2.3.4 /24", "24/1.2.3.4"} {
		if n, length, ok := schema.Net(s); n != 0 || length != 0 || ok {
			t.Errorf("%q: %d, %d, %t", s, n, length, ok)
		}
	}
}

// P4.2
func TestAddrOfDotted(t *testing.T) {
	r := rand.New(rand.NewSource(1))
	numbers := []uint32{0, 1, 255, 256, 65535, 65536, 1<<24 - 1, 1 << 24, 1 << 31, 1<<32 - 1}
	for range 2000 {
		numbers = append(numbers, r.Uint32())
	}
	for _, n := range numbers {
		s := schema.Dotted(n)
		if want := fmt.Sprintf("%d.%d.%d.%d", n>>24, n>>16&255, n>>8&255, n&255); s != want {
			t.Errorf("Dotted(%d): %q, want %q", n, s, want)
		}
		if back, ok := schema.Addr(s); back != n || !ok {
			t.Errorf("Addr(%q): %d, %t", s, back, ok)
		}
	}
}

// P4.2: texts that would tell a value a second time are refused.
func TestToldJustOneWay(t *testing.T) {
	r := rand.New(rand.NewSource(2))
	const signs = "0123456789./+- "
	for range 50000 {
		var b []byte
		for range r.Intn(12) {
			b = append(b, signs[r.Intn(len(signs))])
		}
		s := string(b)
		if n, ok := schema.Decimal(s); ok && strconv.Itoa(n) != s {
			t.Errorf("Decimal(%q): %d", s, n)
		}
		if n, ok := schema.Addr(s); ok && schema.Dotted(n) != s {
			t.Errorf("Addr(%q): %d", s, n)
		}
		if n, length, ok := schema.Net(s); ok && schema.Dotted(n)+"/"+strconv.Itoa(length) != s {
			t.Errorf("Net(%q): %d, %d", s, n, length)
		}
	}
	for range 5000 {
		s := schema.Dotted(r.Uint32() & r.Uint32())
		at := r.Intn(len(s) + 1)
		if n, ok := schema.Addr(s[:at] + "0" + s[at:]); ok && schema.Dotted(n) != s[:at]+"0"+s[at:] {
			t.Errorf("Addr(%q) with a 0 at %d", s, at)
		}
	}
}
