package chain

import (
	"slices"

	"augur/api"
	"augur/frac"
)

// stillIn is, of each state of a closed class, for which share of its steps the chain is there once it has come to the class.
func stillIn(m [][]api.Frac, class []int) []api.Frac {
	equations := make([][]api.Frac, len(class))
	for k, j := range class {
		for _, i := range class {
			equations[k] = append(equations[k], lessSame(m, i, j))
		}
		equations[k] = append(equations[k], frac.Of(0))
	}
	// What goes in and out is the same at the last state if it is at all others: so in its place stands that all are 1 together.
	equations[len(class)-1] = slices.Repeat([]api.Frac{frac.Of(1)}, len(class)+1)
	return solve(equations)
}

// hitsFrom is how likely each of the open states ever comes to one of to, which all of them may.
func hitsFrom(m [][]api.Frac, open, to []int) []api.Frac {
	equations := make([][]api.Frac, len(open))
	for k, i := range open {
		for _, j := range open {
			equations[k] = append(equations[k], lessSame(m, i, j))
		}
		var there []api.Frac
		for _, j := range to {
			there = append(there, m[i][j])
		}
		equations[k] = append(equations[k], frac.Sub(frac.Of(0), frac.Sum(there)))
	}
	return solve(equations)
}

// lessSame is how likely j comes behind i, less 1 where they are the same.
func lessSame(m [][]api.Frac, i, j int) api.Frac {
	if i != j {
		return m[i][j]
	}
	return frac.Sub(m[i][j], frac.Of(1))
}

// solve is the one solution of as many equations as there are unknowns: each is the factors of these, and behind them what they are together. It writes into the equations.
// None has the factor 0 at its own unknown when it is its turn: that is, less 1, how likely its state is come to again by way of those ahead, which each state may leave for good; an equation of ones stands last, and just gains.
func solve(equations [][]api.Frac) []api.Frac {
	solution := make([]api.Frac, len(equations))
	for k := range equations {
		divide(equations[k], equations[k][k])
		for other := range equations {
			if other != k {
				takeTimes(equations[other], equations[k], equations[other][k])
			}
		}
	}
	for k, l := range equations {
		solution[k] = l[len(l)-1]
	}
	return solution
}

func divide(l []api.Frac, by api.Frac) {
	for i := range l {
		l[i], _ = frac.Div(l[i], by)
	}
}

func takeTimes(l, from []api.Frac, factor api.Frac) {
	for i := range l {
		l[i] = frac.Sub(l[i], frac.Mul(from[i], factor))
	}
}
