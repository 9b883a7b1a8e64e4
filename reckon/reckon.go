// Package reckon: what operators make of values. More than one layer reckons with them.
package reckon

import (
	"augur/api"
)

// Joined is what an operator makes of two values (of one: the second is no matter), if it is a number that may be.
func Joined(op, a, b int) (int, bool) {
	if op <= api.Ge {
		return truth(holds(op, a, b)), true
	}
	if (op == api.Div || op == api.Mod) && b == 0 {
		return 0, false
	}
	v := reckoned(op, a, b)
	if v > api.MaxInt || v < -api.MaxInt {
		return 0, false
	}
	return v, true
}

func truth(isTrue bool) int {
	if isTrue {
		return 1
	}
	return 0
}

func holds(op, a, b int) bool {
	switch op {
	case api.Or:
		return a != 0 || b != 0
	case api.And:
		return a != 0 && b != 0
	case api.Not:
		return a == 0
	case api.Eq:
		return a == b
	case api.Ne:
		return a != b
	case api.Lt:
		return a < b
	case api.Le:
		return a <= b
	case api.Gt:
		return a > b
	}
	return a >= b
}

func reckoned(op, a, b int) int {
	switch op {
	case api.Add:
		return a + b
	case api.Sub:
		return a - b
	case api.Mul:
		return a * b
	case api.Div:
		return a / b
	}
	return a % b
}
