package schema

import (
	"strconv"
	"strings"
)

// maxDigits keeps a Decimal within the smallest int that Go has.
const maxDigits = 9

// Decimal tells the number of digits that tell it in the one way that counts.
func Decimal(s string) (int, bool) {
	if len(s) < 1 || len(s) > maxDigits || len(s) > 1 && s[0] == '0' {
		return 0, false
	}
	n := 0
	for i := range len(s) {
		if s[i] < '0' || s[i] > '9' {
			return 0, false
		}
		n = n*10 + int(s[i]-'0')
	}
	return n, true
}

// Addr tells the number of an address, its first part the highest byte.
func Addr(s string) (uint32, bool) {
	var n uint32
	for part := range 4 {
		digits, rest, dot := strings.Cut(s, ".")
		b, ok := Decimal(digits)
		if !ok || b > 255 || dot != (part < 3) {
			return 0, false
		}
		n, s = n<<8|uint32(b), rest
	}
	return n, true
}

// Dotted tells a number as an address.
func Dotted(n uint32) string {
	s := ""
	for shift := 24; shift >= 0; shift -= 8 {
		s += strconv.Itoa(int(n >> shift & 255))
		if shift > 0 {
			s += "."
		}
	}
	return s
}

// Net tells the address of a prefix, all of its bits, and its length.
func Net(s string) (uint32, int, bool) {
	addr, digits, slash := strings.Cut(s, "/")
	n, ok := Addr(addr)
	length, okay := Decimal(digits)
	if !slash || !ok || !okay || length < 1 || length > 32 {
		return 0, 0, false
	}
	return n, length, true
}
