// Package wire lays numbers as bytes, the highest byte first, and reads them again.
package wire

// numberSize is how many bytes a number of a list takes.
const numberSize = 4

// Lay16 tells b with n's two bytes behind it.
func Lay16(b []byte, n uint16) []byte {
	return append(b, byte(n>>8), byte(n))
}

// Lay32 tells b with n's four bytes behind it.
func Lay32(b []byte, n uint32) []byte {
	return append(b, byte(n>>24), byte(n>>16), byte(n>>8), byte(n))
}

// LayAll tells b with the four bytes of each number behind it.
func LayAll(b []byte, numbers []uint32) []byte {
	for _, n := range numbers {
		b = Lay32(b, n)
	}
	return b
}

// Read tells the number that b is; of more than four bytes only the last four count.
func Read(b []byte) uint32 {
	var n uint32
	for _, c := range b {
		n = n<<8 | uint32(c)
	}
	return n
}

// ReadAll tells the numbers of four bytes each that stand in b; fewer than four at its end aren't one.
func ReadAll(b []byte) []uint32 {
	var numbers []uint32
	for ; len(b) >= numberSize; b = b[numberSize:] {
		numbers = append(numbers, Read(b[:numberSize]))
	}
	return numbers
}
