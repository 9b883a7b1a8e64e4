package walk

import (
	"slices"

	"augur/api"
	"augur/frac"
	"augur/nat"
	"augur/net"
	"augur/table"
)

// anew is how likely each value of v is, where the others stay as at says: nothing, if none of its values may be with these.
// Of Joint's factors those that have nothing to do with v are the same for all its values: they fall out of the quotient, if none is 0.
func anew(n api.Net, at []int, v int) []api.Frac {
	if !restMayBe(n, at, v) {
		return nil
	}
	with := slices.Clone(at)
	weights := make([]api.Frac, len(n.Vars[v].Values))
	for value := range weights {
		with[v] = value
		weights[value] = weight(n, with, v)
	}
	t, _ := table.Norm(net.Sizes(n), api.Table{Vars: []int{v}, Cells: weights})
	return t.Cells
}

// restMayBe says whether none of the factors is 0 that have nothing to do with v.
func restMayBe(n api.Net, at []int, v int) bool {
	for u := range n.Vars {
		if !touches(n, u, v) && isNought(likely(n, u, at)) {
			return false
		}
	}
	return true
}

// weight is the product of the factors that have to do with v.
func weight(n api.Net, at []int, v int) api.Frac {
	product := frac.Of(1)
	for u := range n.Vars {
		if touches(n, u, v) {
			product = frac.Mul(product, likely(n, u, at))
		}
	}
	return product
}

// touches says whether u's factor has to do with v.
func touches(n api.Net, u, v int) bool {
	return u == v || slices.Contains(n.Parents[u], v)
}

// likely is u's factor: the number that the net has for its value, where the variables have the values at.
func likely(n api.Net, u int, at []int) api.Frac {
	row := 0
	for _, parent := range n.Parents[u] {
		row = row*len(n.Vars[parent].Values) + at[parent]
	}
	return n.Rows[u][row*len(n.Vars[u].Values)+at[u]]
}

func isNought(f api.Frac) bool {
	return nat.Cmp(f.Num, "") == 0 || nat.Cmp(f.Den, "") == 0
}
