// Package varint is layer 1, numbers as bytes: see shared/doc/01-varint.md.
package varint

import (
	"math/bits"

	"glossary/api"
)

const (
	maxBytes  = 10 // 64 bits, seven a byte
	fixedSize = 8
	moreBit   = 0x80
	lowBits   = 0x7f
)

// Put lays n seven bits a byte, the lowest ahead (P1.1).
func Put(n uint64) []byte {
	size := Size(n)
	b := make([]byte, size)
	for i := range size {
		b[i] = byte(n>>(7*i)) | moreBit
	}
	b[size-1] &= lowBits
	return b
}

// Take answers the number at b's beginning and how many bytes it takes (P1.2).
func Take(b []byte) (uint64, int, api.Errno) {
	var n uint64
	i := 0
next:
	// Nine bytes leave room for one bit more: a tenth that goes on is too great as well.
	if i == len(b) || i == maxBytes-1 && b[i] > 1 {
		return 0, 0, api.ErrVarint
	}
	n |= uint64(b[i]&lowBits) << (7 * i)
	i++
	if b[i-1]&moreBit != 0 {
		goto next
	}
	return n, i, api.OK
}

// Size answers how many bytes Put needs for n (P1.3).
func Size(n uint64) int {
	// Nought has no bits, but takes a byte as one bit does.
	return (bits.Len64(n|1) + 6) / 7
}

// Zig folds the numbers with a sign onto those without, small ones staying small (P1.4).
func Zig(n int64) uint64 {
	// n>>63 is all ones below nought: turning every bit of 2 n makes it -2 n - 1.
	return uint64(n<<1) ^ uint64(n>>63)
}

// Zag answers the number whose Zig is n (P1.4).
func Zag(n uint64) int64 {
	return int64(n>>1) ^ -int64(n&1)
}

// Fixed lays n's low bytes, size of them, the lowest ahead (P1.5).
func Fixed(n uint64, size int) []byte {
	size = min(max(size, 0), fixedSize)
	b := make([]byte, size)
	for i := range size {
		b[i] = byte(n >> (8 * i))
	}
	return b
}

// Unfixed answers the number of b's first eight bytes, the lowest ahead (P1.5).
func Unfixed(b []byte) uint64 {
	var n uint64
	for i := range min(len(b), fixedSize) {
		n |= uint64(b[i]) << (8 * i)
	}
	return n
}
