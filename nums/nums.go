// Package nums: arithmetic of sizes, and numbers in bytes: see doc/01-nums.md.
package nums

import (
	"math"
	"math/bits"

	"annals/api"
)

// varMost is how many groups of seven bits a uint64 may take.
const varMost = 10

// halfOnes are the ones of each half of a byte.
var halfOnes = [16]int{0, 1, 1, 2, 1, 2, 2, 3, 1, 2, 2, 3, 2, 3, 3, 4}

// sum is a + b, if that is at most most. It asks for numbers that are not below 0: only of them does most - a not wrap.
func sum[N int | uint64](a, b, most N) (N, api.Errno) {
	if a > most || b > most-a {
		return 0, api.ErrOver
	}
	return a + b, api.OK
}

// Add is a + b.
func Add(a, b int) (int, api.Errno) {
	if a < 0 || b < 0 {
		return 0, api.ErrRange
	}
	return sum(a, b, math.MaxInt)
}

// Mul is a * b.
func Mul(a, b int) (int, api.Errno) {
	if a < 0 || b < 0 {
		return 0, api.ErrRange
	}
	if a > 0 && b > math.MaxInt/a {
		return 0, api.ErrOver
	}
	return a * b, api.OK
}

// Below is the greatest power of two below n.
func Below(n int) (int, api.Errno) {
	if n < 2 {
		return 0, api.ErrRange
	}
	return 1 << (Bits(n-1) - 1), api.OK
}

// Bits is how many binary digits n has.
func Bits(n int) int {
	if n <= 0 {
		return 0
	}
	return bits.Len64(uint64(n))
}

// Ones is how many of them are one.
func Ones(n int) int {
	if n <= 0 {
		return 0
	}
	ones := 0
	for i := range 16 {
		ones += halfOnes[n>>(4*i)&15]
	}
	return ones
}

// Zeros is how many noughts stand at the end of n's binary digits.
func Zeros(n int) int {
	if n <= 0 {
		return 63
	}
	return bits.TrailingZeros64(uint64(n))
}

// Ceil is the least k with 2 to the k not below n.
func Ceil(n int) int {
	if n <= 1 {
		return 0
	}
	return Bits(n - 1)
}

// isLength tells whether a number may have so many bytes.
func isLength(size int) bool {
	return 1 <= size && size <= 8
}

// PutBE writes v as size bytes, the greatest first.
func PutBE(v uint64, size int) (string, api.Errno) {
	if !isLength(size) {
		return "", api.ErrRange
	}
	if v>>(8*size) != 0 {
		return "", api.ErrOver
	}
	out := make([]byte, size)
	for i := range size {
		out[size-1-i] = byte(v >> (8 * i))
	}
	return string(out), api.OK
}

// BE reads the number of size bytes that stands at at in b.
func BE(b string, at, size int) (uint64, api.Errno) {
	if !isLength(size) || at < 0 {
		return 0, api.ErrRange
	}
	if _, e := sum(at, size, len(b)); e != api.OK {
		return 0, api.ErrRange
	}
	var v uint64
	for i := range size {
		v = v<<8 | uint64(b[at+i])
	}
	return v, api.OK
}

// PutVar writes v in as few bytes of seven bits as it wants, the lowest first.
func PutVar(v uint64) string {
	count := max(1, (bits.Len64(v)+6)/7)
	out := make([]byte, count)
	for i := range count {
		out[i] = 128 | byte(v>>(7*i))
	}
	out[count-1] &= 127
	return string(out)
}

// Var reads such a number, and tells where it ends.
func Var(b string, at int) (uint64, int, api.Errno) {
	if at < 0 || at > len(b) {
		return 0, 0, api.ErrRange
	}
	var v uint64
	var e api.Errno
	for i := range varMost {
		if i == len(b)-at {
			return 0, 0, api.ErrShort
		}
		c := b[at+i]
		if v, e = join(v, i, c); e != api.OK {
			return 0, 0, e
		}
		if c < 128 {
			return v, at + i + 1, api.OK
		}
	}
	return 0, 0, api.ErrOver
}

// join is v and the group that byte i adds to it. The tenth byte has room for one bit, and none that says that another follows; a 0 behind other bytes says nothing that fewer bytes would not.
func join(v uint64, i int, c byte) (uint64, api.Errno) {
	if i == varMost-1 && c > 1 {
		return 0, api.ErrOver
	}
	if i > 0 && c == 0 {
		return 0, api.ErrForm
	}
	return sum(v, uint64(c&127)<<(7*i), math.MaxUint64)
}
