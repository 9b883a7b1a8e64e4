package nat

import (
	"math/bits"
)

// plus is the sum; noughts may stand at its end.
func plus(x, y []uint32) []uint32 {
	if len(x) < len(y) {
		x, y = y, x
	}
	sum := make([]uint32, len(x)+1)
	copy(sum, x)
	putBack(sum, y)
	return sum
}

// putBack adds y to x, which is no shorter, in its place: does it run over its end?
func putBack(x, y []uint32) bool {
	var carry uint64
	for i := range x {
		if i >= len(y) && carry == 0 {
			break
		}
		carry += uint64(x[i])
		if i < len(y) {
			carry += uint64(y[i])
		}
		x[i] = uint32(carry)
		carry >>= partBits
	}
	return carry != 0
}

// takeTimes takes y, so many times, from x, which is no shorter, in its place: does it fall below 0?
// (It then wraps round, so that putBack can mend it.)
func takeTimes(x, y []uint32, factor uint32) bool {
	var carry, borrow uint64
	for i := range x {
		if i >= len(y) && carry == 0 && borrow == 0 {
			break
		}
		if i < len(y) {
			carry += uint64(y[i]) * uint64(factor)
		}
		difference := uint64(x[i]) - carry&partMost - borrow
		x[i] = uint32(difference)
		borrow = difference >> (2*partBits - 1)
		carry >>= partBits
	}
	return carry != 0 || borrow != 0
}

// times is the product; noughts may stand at its end.
func times(x, y []uint32) []uint32 {
	product := make([]uint32, len(x)+len(y))
	for i := range x {
		var carry uint64
		for j := range y {
			carry += uint64(x[i])*uint64(y[j]) + uint64(product[i+j])
			product[i+j] = uint32(carry)
			carry >>= partBits
		}
		product[i+len(y)] = uint32(carry)
	}
	return product
}

// divide is quotient and rest; y is not 0.
// Both are shifted up first, until y's highest bit is set: so the two highest parts tell the quotient's next part nearly right.
func divide(x, y []uint32) (quotient, rest []uint32) {
	if len(x) < len(y) {
		return nil, x
	}
	shift := bits.LeadingZeros32(y[len(y)-1])
	left, by := shiftUp(x, shift), shorten(shiftUp(y, shift))
	quotient = make([]uint32, len(x)-len(y)+1)
	for i := range quotient {
		at := len(quotient) - 1 - i
		quotient[at] = takeMost(left[at:at+len(by)+1], by)
	}
	shiftDown(left, shift)
	return shorten(quotient), shorten(left)
}

// takeMost takes y from x, which has one part more, as often as it can: so many times.
// The guess is never too small, and at most 2 too great.
func takeMost(x, y []uint32) uint32 {
	last := len(y) - 1
	top := uint64(x[last+1])<<partBits | uint64(x[last])
	guess := uint32(min(top/uint64(y[last]), partMost))
	below := takeTimes(x, y, guess)
	for below {
		guess--
		below = !putBack(x, y)
	}
	return guess
}

// shiftUp is the number with so many bits, fewer than a part has, behind it: one part more, which may be 0.
func shiftUp(l []uint32, shift int) []uint32 {
	out := make([]uint32, len(l)+1)
	var carry uint64
	for i, part := range l {
		carry |= uint64(part) << shift
		out[i] = uint32(carry)
		carry >>= partBits
	}
	out[len(l)] = uint32(carry)
	return out
}

// shiftDown takes so many bits away from the end, in its place.
func shiftDown(l []uint32, shift int) {
	var above uint64
	for i := range l {
		at := len(l) - 1 - i
		above = above<<partBits | uint64(l[at])
		l[at] = uint32(above >> shift)
	}
}
