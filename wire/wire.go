// Package wire is layer 1: bytes written and read, and their digests; see shared/doc/01-wire.md.
package wire

const (
	fnvBegin = 14695981039346656037
	fnvPrime = 1099511628211

	crcPolynomial = 0xEDB88320

	lengthBytes = 4         // of a text on the wire
	sumBytes    = 4         // of a frame
	mostText    = 1<<32 - 1 // bytes of a text on the wire
	mostFrame   = 1<<31 - 1 // bytes of a text that is written as a frame

	shortGroups  = 9  // seven bits each: 63, so that no short number is too great for an int
	signedGroups = 10 // nine of seven bits and one bit of the tenth: 64
)

// sizes is how many bytes a number of fixed size may have.
var sizes = [4]int{1, 2, 4, 8}

// Fnv is the digest of bytes.
func Fnv(s string) uint64 {
	digest := uint64(fnvBegin)
	for i := range len(s) {
		digest ^= uint64(s[i])
		digest *= fnvPrime
	}
	return digest
}

// Crc is the CRC-32 of bytes.
func Crc(s string) uint32 {
	sum := ^uint32(0)
	for i := range len(s) {
		sum ^= uint32(s[i])
		for range 8 {
			// The polynomial or 0, by the lowest bit: no branch that bytes of chance would mislead.
			sum = sum>>1 ^ crcPolynomial&-(sum&1)
		}
	}
	return ^sum
}

func isSize(bytes int) bool {
	for _, size := range sizes {
		if bytes == size {
			return true
		}
	}
	return false
}
