// Package codec writes records and manifests as bytes, and reads them back.
package codec

// polynomial is that of the CRC-32, with its bits turned about.
const polynomial = 0xedb88320

// sumSize is how many bytes the sum at the front of a record or manifest has.
const sumSize = 4

// sum tells the CRC-32 of bytes.
func sum(b []byte) uint32 {
	c := ^uint32(0)
	for _, x := range b {
		c ^= uint32(x)
		for range 8 {
			c = c>>1 ^ polynomial*(c&1)
		}
	}
	return ^c
}

// putNumber fills b with a number, the highest byte first.
func putNumber(b []byte, n uint64) {
	for i := len(b) - 1; i >= 0; i-- {
		b[i] = byte(n)
		n >>= 8
	}
}

// number reads what putNumber wrote.
func number(b []byte) uint64 {
	n := uint64(0)
	for _, x := range b {
		n = n<<8 | uint64(x)
	}
	return n
}

// seal puts the sum of all that follows at the front, where room was left for it.
func seal(b []byte) {
	putNumber(b[:sumSize], uint64(sum(b[sumSize:])))
}
