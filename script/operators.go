package script

import (
	"augur/api"
)

// The tiers of expressions, the loosest first. What is of a tier has parts of its own tier or tighter ones, but in brackets.
const (
	orTier = iota + 1
	andTier
	notTier
	compareTier
	sumTier
	productTier
	atomTier
)

const loosest = orTier

type operator struct {
	sign     string
	op, tier int
}

var operators = [...]operator{
	{"or", api.Or, orTier},
	{"and", api.And, andTier},
	{"not", api.Not, notTier},
	{"==", api.Eq, compareTier},
	{"!=", api.Ne, compareTier},
	{"<", api.Lt, compareTier},
	{"<=", api.Le, compareTier},
	{">", api.Gt, compareTier},
	{">=", api.Ge, compareTier},
	{"+", api.Add, sumTier},
	{"-", api.Sub, sumTier},
	{"*", api.Mul, productTier},
	{"/", api.Div, productTier},
	{"%", api.Mod, productTier},
}

// operatorOf is the operator of a number, if there is one.
func operatorOf(op int) (operator, bool) {
	for _, o := range operators {
		if o.op == op {
			return o, true
		}
	}
	return operator{}, false
}

// operatorAt is the operator of a tier that a token is, if it is one.
func operatorAt(token string, tier int) (operator, bool) {
	for _, o := range operators {
		if o.sign == token && o.tier == tier {
			return o, true
		}
	}
	return operator{}, false
}

// leftTier is the tier down to which what stands left of an operator needs no brackets: comparisons can't follow each other.
func leftTier(tier int) int {
	if tier == compareTier {
		return tier + 1
	}
	return tier
}
