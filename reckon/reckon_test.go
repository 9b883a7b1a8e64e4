package reckon_test

import (
	"math/big"
	"testing"

	"augur/api"
	"augur/reckon"
)

// want is what an operator makes of two numbers, by big ones; quotients by their signs.
func want(op, a, b int) (int, bool) {
	x, y := big.NewInt(int64(a)), big.NewInt(int64(b))
	is := map[int]bool{api.Or: a != 0 || b != 0, api.And: a != 0 && b != 0, api.Not: a == 0, api.Eq: x.Cmp(y) == 0, api.Ne: x.Cmp(y) != 0, api.Lt: x.Cmp(y) < 0, api.Le: x.Cmp(y) <= 0, api.Gt: x.Cmp(y) > 0, api.Ge: x.Cmp(y) >= 0}
	if isTrue, ok := is[op]; ok {
		if isTrue {
			return 1, true
		}
		return 0, true
	}
	z := new(big.Int)
	switch op {
	case api.Add:
		z.Add(x, y)
	case api.Sub:
		z.Sub(x, y)
	case api.Mul:
		z.Mul(x, y)
	default:
		if b == 0 {
			return 0, false
		}
		z.Div(new(big.Int).Abs(x), new(big.Int).Abs(y))
		z.Mul(z, big.NewInt(int64(x.Sign()*y.Sign())))
		if op == api.Mod {
			z.Sub(x, z.Mul(z, y))
		}
	}
	if z.CmpAbs(big.NewInt(api.MaxInt)) > 0 {
		return 0, false
	}
	return int(z.Int64()), true
}

// TestJoinedM2: each operator, of small numbers and at the bounds.
func TestJoinedM2(t *testing.T) {
	l := []int{-999, -998, -500, -499, -37, -32, -31, 31, 32, 37, 499, 500, 998, 999}
	for v := -5; v <= 5; v++ {
		l = append(l, v)
	}
	for op := api.Or; op <= api.Mod; op++ {
		for _, a := range l {
			for _, b := range l {
				v, ok := reckon.Joined(op, a, b)
				if w, may := want(op, a, b); v != w || ok != may {
					t.Errorf("%d of %d and %d: %d %v, not %d %v", op, a, b, v, ok, w, may)
				}
			}
		}
	}
}
