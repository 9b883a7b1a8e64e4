package chance

import (
	"augur/api"
	"augur/nat"
	"augur/weigh"
)

// answerOf lets the root weigh one whole, and each knot pass on to its kids what it weighs: so each is gone through once, however many ways lead to it.
func answerOf(d api.Diagram) api.Answer {
	shares, whole := sharesOf(d)
	root := len(d.Knots) - 1
	weights := make([]api.Nat, len(d.Knots))
	weights[root] = whole
	var sums weigh.Tally
	for at := root; at >= 0; at-- {
		k := d.Knots[at]
		switch {
		case weights[at] == "":
			// no way leads here
		case isEnd(k):
			sums.Add(k.End, weights[at])
		default:
			pass(weights, at, k.Kids, shares[k.Draw])
		}
		weights[at] = ""
	}
	return sums.Answer(whole)
}

// pass parts what a fork weighs among its kids. There is no rest: the whole has each draw once, and a way comes to it at most once.
func pass(weights []api.Nat, at int, kids []int, s weigh.Share) {
	part, _, _ := nat.Div(weights[at], s.Whole)
	for i, kid := range kids {
		weights[kid] = nat.Add(weights[kid], nat.Mul(part, s.Parts[i]))
	}
}

// sharesOf is the share of each draw that some way comes to, by its number, and the product of their wholes: what no way comes to would just make all numbers longer.
func sharesOf(d api.Diagram) ([]weigh.Share, api.Nat) {
	shares := make([]weigh.Share, len(d.Draws))
	whole := nat.Of(1)
	come := make([]bool, len(d.Knots))
	come[len(come)-1] = true
	for at := len(come) - 1; at >= 0; at-- {
		k := d.Knots[at]
		if !come[at] || isEnd(k) {
			continue
		}
		for _, kid := range k.Kids {
			come[kid] = true
		}
		if shares[k.Draw].Parts == nil {
			shares[k.Draw] = weigh.ShareOf(d.Draws[k.Draw])
			whole = nat.Mul(whole, shares[k.Draw].Whole)
		}
	}
	return shares, whole
}
