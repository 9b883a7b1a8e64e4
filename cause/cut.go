package cause

import (
	"slices"

	"augur/api"
	"augur/graph"
)

// setsMayBe says whether these are sets of a graph's nodes of which no two have one in common. (There is at least one set: so the graph is looked at.)
func setsMayBe(parents [][]int, sets ...[]int) api.Errno {
	var been []int
	for _, s := range sets {
		if _, e := graph.Above(parents, s); e != api.OK {
			return e
		}
		if len(others(s, been)) < len(s) {
			return api.ErrVar
		}
		been = union(been, s)
	}
	return api.OK
}

// withoutIn is the graph without the ways into these.
func withoutIn(parents [][]int, nodes []int) [][]int {
	cut := slices.Clone(parents)
	for _, v := range nodes {
		cut[v] = nil
	}
	return cut
}

// withoutOut is the graph without the ways out of these.
func withoutOut(parents [][]int, nodes []int) [][]int {
	cut := make([][]int, len(parents))
	for v, l := range parents {
		cut[v] = others(l, nodes)
	}
	return cut
}

// apart asks of sets that may be.
func apart(parents [][]int, x, y, z []int) bool {
	is, _ := graph.Apart(parents, x, y, z)
	return is
}

// isAbove says whether x stands above one of the nodes, of which it is none.
func isAbove(parents [][]int, x int, nodes []int) bool {
	above, _ := graph.Above(parents, nodes)
	return slices.Contains(above, x)
}

// others are those of l that are not in the second list.
func others(l, without []int) []int {
	return slices.DeleteFunc(slices.Clone(l), func(v int) bool { return slices.Contains(without, v) })
}

// union is all of two lists that have nothing in common, rising.
func union(a, b []int) []int {
	both := slices.Concat(a, b)
	slices.Sort(both)
	return both
}
