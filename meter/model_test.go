package meter

import (
	"math/big"
	"strings"

	"annals/api"
)

// The model says with exact fractions what the chapter says in words; of the floats of the machine it uses none.

const (
	signBit  = uint64(1) << 63
	infinite = uint64(0x7ff) << 52 // bits of infinity; as an exact value it is read as 2 to the 1024, the next one behind the greatest float
)

// isFinite: are these the bits of a finite float?
func isFinite(bits uint64) bool {
	return bits&infinite != infinite
}

// exact is the value of a float, by its sign, exponent and fraction.
func exact(bits uint64) *big.Rat {
	exponent, fraction := int(bits>>52&0x7ff), int64(bits&(1<<52-1))
	if exponent > 0 {
		fraction += 1 << 52
	} else {
		exponent = 1
	}
	if bits&signBit != 0 {
		fraction = -fraction
	}
	r := new(big.Rat).SetInt64(fraction)
	power := new(big.Rat).SetInt(new(big.Int).Lsh(big.NewInt(1), uint(max(exponent-1075, 1075-exponent))))
	if exponent < 1075 {
		return r.Quo(r, power)
	}
	return r.Mul(r, power)
}

// nearest are the bits of the float next to a value, of two the one whose last bit is 0; below is the sign of a 0.
func nearest(r *big.Rat, below bool) uint64 {
	sign := uint64(0)
	if r.Sign() < 0 || r.Sign() == 0 && below {
		sign = signBit
	}
	size := new(big.Rat).Abs(r)
	lo, hi := uint64(0), infinite // lo is not above the value; hi is, or is behind all floats
	for hi-lo > 1 {
		if mid := lo + (hi-lo)/2; exact(mid).Cmp(size) <= 0 {
			lo = mid
		} else {
			hi = mid
		}
	}
	under := new(big.Rat).Sub(size, exact(lo))
	over := new(big.Rat).Sub(exact(hi), size)
	if c := under.Cmp(over); c > 0 || c == 0 && lo&1 == 1 {
		return sign | hi
	}
	return sign | lo
}

func modelBits(v int) uint64 {
	return nearest(new(big.Rat).SetInt64(int64(v)), false)
}

func modelQuot(a, b int) (uint64, api.Errno) {
	if b == 0 {
		return 0, api.ErrZero
	}
	x, y := exact(modelBits(a)), exact(modelBits(b))
	return nearest(new(big.Rat).Quo(x, y), b < 0), api.OK
}

func modelAdd(a, b uint64) (uint64, api.Errno) {
	if !isFinite(a) || !isFinite(b) {
		return 0, api.ErrValue
	}
	sum := nearest(new(big.Rat).Add(exact(a), exact(b)), a == signBit && b == signBit)
	if !isFinite(sum) {
		return 0, api.ErrOver
	}
	return sum, api.OK
}

// floor is the greatest whole number that is not above a value from 0 on.
func floor(r *big.Rat) *big.Int {
	return new(big.Int).Quo(r.Num(), r.Denom())
}

func modelWhole(bits uint64) (int, api.Errno) {
	if !isFinite(bits) {
		return 0, api.ErrValue
	}
	x := exact(bits)
	n := floor(new(big.Rat).Add(new(big.Rat).Abs(x), big.NewRat(1, 2)))
	if x.Sign() < 0 {
		n.Neg(n)
	}
	if !n.IsInt64() {
		return 0, api.ErrOver
	}
	return int(n.Int64()), api.OK
}

func modelMean(list []int) (uint64, api.Errno) {
	if len(list) == 0 {
		return 0, api.ErrZero
	}
	sum := new(big.Int)
	for _, v := range list {
		if sum.Add(sum, big.NewInt(int64(v))); !sum.IsInt64() {
			return 0, api.ErrOver
		}
	}
	return modelQuot(int(sum.Int64()), len(list))
}

func modelVariance(list []int) (uint64, api.Errno) {
	if len(list) == 0 {
		return 0, api.ErrZero
	}
	n, sum, squares := big.NewInt(int64(len(list))), new(big.Int), new(big.Int)
	fits := true
	kept := func(x *big.Int) *big.Int {
		fits = fits && x.IsInt64()
		return x
	}
	times := func(x, y *big.Int) *big.Int {
		return kept(new(big.Int).Mul(x, y))
	}
	for _, v := range list {
		x := big.NewInt(int64(v))
		kept(sum.Add(sum, x))
		kept(squares.Add(squares, times(x, x)))
	}
	spread := new(big.Int).Sub(times(n, squares), times(sum, sum))
	parts := times(n, n)
	if !fits {
		return 0, api.ErrOver
	}
	return modelQuot(int(spread.Int64()), int(parts.Int64()))
}

// modelRank sorts nothing: the k-th sample is the one that has fewer than k below it, and k or more not above it.
func modelRank(list []int, num, den int) (int, api.Errno) {
	if len(list) == 0 {
		return 0, api.ErrZero
	}
	if den < 1 || den > 1000000 || num < 0 || num > den {
		return 0, api.ErrRange
	}
	k := 1
	for k*den < num*len(list) {
		k++
	}
	for _, v := range list {
		if less, notAbove := around(list, v); less < k && notAbove >= k {
			return v, api.OK
		}
	}
	panic("no sample of this rank")
}

// around is how many samples are below one, and how many are not above it.
func around(list []int, v int) (less, notAbove int) {
	for _, x := range list {
		if x < v {
			less++
		}
		if x <= v {
			notAbove++
		}
	}
	return less, notAbove
}

func modelFixed(bits uint64, digits int) (string, api.Errno) {
	if !isFinite(bits) {
		return "", api.ErrValue
	}
	if digits < 0 || digits > 9 {
		return "", api.ErrRange
	}
	scale := new(big.Int).Exp(big.NewInt(10), big.NewInt(int64(digits)), nil)
	scaled := new(big.Rat).Abs(exact(bits))
	scaled.Mul(scaled, new(big.Rat).SetInt(scale))
	n := floor(scaled)
	rest := scaled.Sub(scaled, new(big.Rat).SetInt(n))
	if c := rest.Cmp(big.NewRat(1, 2)); c > 0 || c == 0 && n.Bit(0) == 1 {
		n.Add(n, big.NewInt(1))
	}
	said := n.String()
	said = strings.Repeat("0", max(digits+1-len(said), 0)) + said
	ahead, behind := said[:len(said)-digits], said[len(said)-digits:]
	if digits > 0 {
		ahead += "." + behind
	}
	if bits&signBit != 0 {
		ahead = "-" + ahead
	}
	return ahead, api.OK
}
