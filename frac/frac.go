// Package frac: fractions: see the document's chapter.
package frac

import (
	"augur/api"
	"augur/nat"
)

// Make is a fraction in lowest terms; where den is 0 it is 0.
func Make(neg bool, num, den api.Nat) api.Frac {
	if isNought(num) || isNought(den) {
		return nought()
	}
	common := nat.Gcd(num, den)
	num, _, _ = nat.Div(num, common)
	den, _, _ = nat.Div(den, common)
	return api.Frac{Neg: neg, Num: num, Den: den}
}

// Of is a whole number.
func Of(n int) api.Frac {
	if n >= 0 {
		return Make(false, nat.Of(n), nat.Of(1))
	}
	// The least int has no counterpart above 0: one step nearer to 0 each has.
	return Make(true, nat.Add(nat.Of(-(n+1)), nat.Of(1)), nat.Of(1))
}

// Canon is the fraction in lowest terms.
func Canon(f api.Frac) api.Frac {
	return Make(f.Neg, f.Num, f.Den)
}

// Add is the sum.
func Add(a, b api.Frac) api.Frac {
	neg, num, den := together(a, b)
	return Make(neg, num, den)
}

// Sub is the difference.
func Sub(a, b api.Frac) api.Frac {
	return Add(a, opposite(b))
}

// Mul is the product.
func Mul(a, b api.Frac) api.Frac {
	return Make(a.Neg != b.Neg, nat.Mul(a.Num, b.Num), nat.Mul(a.Den, b.Den))
}

// Div is the quotient.
func Div(a, b api.Frac) (api.Frac, api.Errno) {
	if isNought(b.Num) || isNought(b.Den) {
		return api.Frac{}, api.ErrZero
	}
	return Mul(a, api.Frac{Neg: b.Neg, Num: b.Den, Den: b.Num}), api.OK
}

// Cmp is -1, 0 or 1: less, the same, greater.
func Cmp(a, b api.Frac) int {
	neg, num, _ := together(a, opposite(b))
	switch {
	case isNought(num):
		return 0
	case neg:
		return -1
	}
	return 1
}

// Sum is that of all.
func Sum(l []api.Frac) api.Frac {
	sum := nought()
	for _, f := range l {
		sum = Add(sum, f)
	}
	return sum
}

func isNought(a api.Nat) bool {
	return nat.Cmp(a, "") == 0
}

func nought() api.Frac {
	return api.Frac{Den: nat.Of(1)}
}

func opposite(f api.Frac) api.Frac {
	return api.Frac{Neg: !f.Neg, Num: f.Num, Den: f.Den}
}

// divisible has 0/1 in the place of what has the Den 0: that would spoil a common Den.
func divisible(f api.Frac) api.Frac {
	if isNought(f.Den) {
		return nought()
	}
	return f
}

// together is the sum, not yet in lowest terms: to compare takes no more. Its den is not 0.
func together(a, b api.Frac) (neg bool, num, den api.Nat) {
	a, b = divisible(a), divisible(b)
	left, right := nat.Mul(a.Num, b.Den), nat.Mul(b.Num, a.Den)
	den = nat.Mul(a.Den, b.Den)
	if a.Neg == b.Neg {
		return a.Neg, nat.Add(left, right), den
	}
	if num, ok := nat.Sub(left, right); ok {
		return a.Neg, num, den
	}
	num, _ = nat.Sub(right, left)
	return b.Neg, num, den
}
