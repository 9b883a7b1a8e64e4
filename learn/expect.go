package learn

import (
	"slices"

	"augur/api"
	"augur/frac"
	"augur/join"
	"augur/net"
	"augur/table"
)

// likelies tells how likely what was seen is, row by row, to the one who ranges over it to its end.
func likelies(n api.Net, data [][]int) <-chan api.Frac {
	told := make(chan api.Frac)
	go func() {
		tree, _ := join.New(n)
		for _, row := range data {
			know(tree, row)
			told <- tree.Prob()
		}
		close(told)
	}()
	return told
}

// know lets a tree know what was seen of a row, and nothing else.
func know(tree *join.Tree, row []int) {
	for v, value := range row {
		if value == unseen {
			tree.Forget(v)
		} else {
			tree.Enter(v, value)
		}
	}
}

// expected is, of each number of each variable's rows, how often what it is of is to be expected in the data, each row of which may be.
func expected(n api.Net, data [][]int) [][]api.Frac {
	sizes, sums := net.Sizes(n), make([][]api.Frac, len(n.Vars))
	for v := range sums {
		sums[v] = noughts(sizes, n.Parents[v], v)
	}
	tree, _ := join.New(n)
	homes := homesIn(tree.Cliques(), n.Parents)
	for _, row := range data {
		know(tree, row)
		for k, vars := range homes {
			belief, _ := tree.Belief(k)
			for _, v := range vars {
				addFamily(sums[v], sizes, n.Parents[v], v, belief)
			}
		}
	}
	return sums
}

// homesIn has, of each clique, the variables that are in it with their parents, and in no clique ahead of it.
func homesIn(cliques, parents [][]int) [][]int {
	homes := make([][]int, len(cliques))
	for v := range parents {
		k := slices.IndexFunc(cliques, func(clique []int) bool {
			lacks := func(u int) bool { return !slices.Contains(clique, u) }
			return !lacks(v) && !slices.ContainsFunc(parents[v], lacks)
		})
		homes[k] = append(homes[k], v)
	}
	return homes
}

// addFamily adds, to each number of v's rows, how likely what it is of is by what a clique has that v and its parents are in.
// The others go out of the clique first: sums of one row of data have more in common than those of several.
func addFamily(sums []api.Frac, sizes, parents []int, v int, belief api.Table) {
	for _, u := range slices.Backward(belief.Vars) {
		if u != v && !slices.Contains(parents, u) {
			belief, _ = table.Out(sizes, belief, u, false)
		}
	}
	likely, _ := table.Norm(sizes, belief)
	at, nought := make([]int, len(sizes)), frac.Of(0)
	for cell, f := range likely.Cells {
		if f == nought { // most are, where much was seen
			continue
		}
		values, _ := table.Where(sizes, likely.Vars, cell)
		for i, u := range likely.Vars {
			at[u] = values[i]
		}
		k := place(sizes, parents, v, at)
		sums[k] = frac.Add(sums[k], f)
	}
}
