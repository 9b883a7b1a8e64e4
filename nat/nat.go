// Package nat: natural numbers of any length: see the document's chapter.
package nat

import (
	"cmp"
	"math"
	"strings"

	"augur/api"
)

// Trim leaves out noughts ahead.
func Trim(a api.Nat) api.Nat {
	return api.Nat(strings.Clone(string(bare(a))))
}

// Of is a number; one below 0 is 0.
func Of(n int) api.Nat {
	return ofWord(uint64(max(n, 0)))
}

// Int is the number as an int, if it is one.
func Int(a api.Nat) (int, bool) {
	if Cmp(a, Of(math.MaxInt)) > 0 {
		return 0, false
	}
	return int(wordOf(spread(a))), true
}

// Cmp is -1, 0 or 1: less, the same, greater.
func Cmp(a, b api.Nat) int {
	a, b = bare(a), bare(b)
	if len(a) != len(b) {
		return cmp.Compare(len(a), len(b))
	}
	return cmp.Compare(a, b)
}

// Add is the sum.
func Add(a, b api.Nat) api.Nat {
	return gather(plus(spread(a), spread(b)))
}

// Sub is the difference, if it is none below 0.
func Sub(a, b api.Nat) (api.Nat, bool) {
	if Cmp(a, b) < 0 {
		return "", false
	}
	rest := spread(a)
	takeTimes(rest, spread(b), 1)
	return gather(rest), true
}

// Mul is the product.
func Mul(a, b api.Nat) api.Nat {
	return gather(times(spread(a), spread(b)))
}

// Div is quotient and rest.
func Div(a, b api.Nat) (q, r api.Nat, ok bool) {
	y := spread(b)
	if len(y) == 0 {
		return "", "", false
	}
	quotient, rest := divide(spread(a), y)
	return gather(quotient), gather(rest), true
}

// Gcd is the greatest that divides both.
func Gcd(a, b api.Nat) api.Nat {
	x, y := spread(a), spread(b)
	for len(y) > 0 && (len(x) > wordParts || len(y) > wordParts) {
		_, rest := divide(x, y)
		x, y = y, rest
	}
	if len(y) == 0 {
		return gather(x)
	}
	return ofWord(gcdOfWords(wordOf(x), wordOf(y)))
}

// gcdOfWords ends what Gcd began as soon as it fits: most fractions are that small.
func gcdOfWords(x, y uint64) uint64 {
	for y != 0 {
		x, y = y, x%y
	}
	return x
}
