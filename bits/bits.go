// Package bits is layer 1: rows of bits, numbers in as many bits as are said,
// and numbers that say how many bits they have.
package bits

import (
	"math/bits"

	"gauge/api"
)

const (
	maxDigits  = 64 // the most bits that a number is laid down in
	lengthBits = 7  // the bits that say how many digits follow
)

// Right tells whether bits are right.
func Right(x api.Bits) bool {
	if x.N < 0 || len(x.B) != bytesOf(x.N) {
		return false
	}
	used := x.N % 8
	return used == 0 || x.B[len(x.B)-1]<<used == 0
}

// bytesOf tells how many bytes n bits need. It divides before it rounds up,
// because the greatest n has no room for 7 more.
func bytesOf(n int) int {
	return n/8 + (n%8+7)/8
}

// Put tells bits with a number behind them.
func Put(x api.Bits, u uint64, n int) (api.Bits, api.Errno) {
	if !Right(x) || n < 0 || n > maxDigits {
		return api.Bits{}, api.ErrArg
	}
	if u>>n != 0 {
		return api.Bits{}, api.ErrBig
	}
	longer, lay := extend(x, n)
	lay(u, n)
	return longer, api.OK
}

// extend tells a copy of x with more bits behind it, and what lays numbers
// down in these, one behind the other. It copies, because an answer shares no
// memory with what was handed in.
func extend(x api.Bits, more int) (api.Bits, func(u uint64, n int)) {
	longer := api.Bits{B: make([]byte, bytesOf(x.N+more)), N: x.N + more}
	copy(longer.B, x.B)
	at := x.N
	lay := func(u uint64, n int) {
		for i := range n {
			digit := byte(u>>(n-1-i)) & 1
			longer.B[at/8] |= digit << (7 - at%8)
			at++
		}
	}
	return longer, lay
}

// Get tells the number at a place.
func Get(x api.Bits, at, n int) (uint64, api.Errno) {
	if !Right(x) || n < 0 || n > maxDigits || at < 0 || at > x.N {
		return 0, api.ErrArg
	}
	if n > x.N-at {
		return 0, api.ErrShort
	}
	var u uint64
	for i := range n {
		u = u<<1 | bitAt(x, at+i)
	}
	return u, api.OK
}

func bitAt(x api.Bits, i int) uint64 {
	return uint64(x.B[i/8]>>(7-i%8)) & 1
}

// Zig tells a number with a sign as one without.
func Zig(n int) uint64 {
	if n >= 0 {
		return uint64(n) << 1
	}
	// -2 n - 1 as 2 (-n - 1) + 1, because -2 n goes too far for the least n.
	return uint64(-(n+1))<<1 | 1
}

// Zag tells it back.
func Zag(u uint64) int {
	half := int(u >> 1)
	if u&1 == 0 {
		return half
	}
	return -half - 1
}

// PutNum tells bits with a number behind them that says itself how long it is.
func PutNum(x api.Bits, u uint64) (api.Bits, api.Errno) {
	if !Right(x) {
		return api.Bits{}, api.ErrArg
	}
	n := bits.Len64(u)
	longer, lay := extend(x, lengthBits+n)
	lay(uint64(n), lengthBits)
	lay(u, n)
	return longer, api.OK
}

// GetNum tells such a number, and the place behind it.
func GetNum(x api.Bits, at int) (uint64, int, api.Errno) {
	length, e := Get(x, at, lengthBits)
	if e != api.OK {
		return 0, 0, e
	}
	if length > maxDigits {
		return 0, 0, api.ErrCorrupt
	}
	n := int(length)
	u, e := Get(x, at+lengthBits, n)
	if e != api.OK {
		return 0, 0, e
	}
	// A first digit 0 would give a number a second form.
	if bits.Len64(u) != n {
		return 0, 0, api.ErrCorrupt
	}
	return u, at + lengthBits + n, api.OK
}
