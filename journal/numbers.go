package journal

// number is a number of one of the sizes that stand on the disk.
type number interface {
	uint16 | uint32 | uint64
}

// lay fills b with n, the highest byte first.
func lay[N number](b []byte, n N) {
	for i := len(b) - 1; i >= 0; i-- {
		b[i] = byte(n)
		n >>= 8
	}
}

// read is lay the other way round.
func read[N number](b []byte) N {
	var n N
	for _, c := range b {
		n = n<<8 | N(c)
	}
	return n
}

// Crc tells the CRC-32 of IEEE 802.3.
func Crc(b []byte) uint32 {
	return ^grow(^uint32(0), b)
}

// grow takes bytes into a sum that isn't turned yet, so that one sum may be of bytes that stand apart.
func grow(sum uint32, b []byte) uint32 {
	const turned = 0xEDB88320
	for _, c := range b {
		sum ^= uint32(c)
		for range 8 {
			odd := sum&1 == 1
			sum >>= 1
			if odd {
				sum ^= turned
			}
		}
	}
	return sum
}
