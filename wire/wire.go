// Package wire is layer 1: numbers and texts as bytes, and a check sum.
package wire

import (
	"copydesk/api"
)

const (
	more = 128        // stands in each byte of a short number but the last one
	poly = 0xEDB88320 // of the sum, turned round
)

// Number answers b, and x as a short number.
func Number(b []byte, x uint64) []byte {
	// A copy first: appending to b itself would write into room that is the caller's.
	out := append(make([]byte, 0, len(b)+Size(x)), b...)
	for x >= more {
		out = append(out, byte(x)|more)
		x >>= 7
	}
	return append(out, byte(x))
}

// Piece answers b, and p as a piece.
func Piece(b []byte, p string) ([]byte, api.Errno) {
	if len(p) > api.MaxPiece {
		return nil, api.ErrLong
	}
	return append(Number(b, uint64(len(p))), p...), api.OK
}

// Size tells how many bytes x has as a short number.
func Size(x uint64) int {
	n := 1
	for x >= more {
		x >>= 7
		n++
	}
	return n
}

// Sum is the CRC-32 of b.
func Sum(b []byte) uint32 {
	var table [256]uint32
	for i := range table {
		x := uint32(i)
		for range 8 {
			if x&1 == 1 {
				x = x>>1 ^ poly
			} else {
				x >>= 1
			}
		}
		table[i] = x
	}
	sum := ^uint32(0)
	for _, c := range b {
		sum = sum>>8 ^ table[byte(sum)^c]
	}
	return ^sum
}
