// Package crc is layer 1: see shared/doc/01-crc.md.
package crc

const poly = 0xEDB88320

// Sum is the CRC-32 of the bytes of all parts, one part behind the other.
func Sum(parts ...[]byte) uint32 {
	var s uint32
	for _, p := range parts {
		s = More(s, p)
	}
	return s
}

// More goes on from the sum s over b: More(Sum(a), b) is Sum(a, b).
func More(s uint32, b []byte) uint32 {
	c := ^s
	for _, x := range b {
		c = eight(c ^ uint32(x))
	}
	return ^c
}

// eight takes the low eight bits of c through the division, one by one.
func eight(c uint32) uint32 {
	for range 8 {
		c = c>>1 ^ poly&-(c&1) // -(c&1) is all ones for an odd c: no branch to guess wrong on bits that are as good as random
	}
	return c
}
