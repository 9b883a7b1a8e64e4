package graph

import (
	"slices"

	"augur/api"
)

// readNear is the neighbours of each node: false, unless each is a neighbour of its neighbours.
func readNear(near [][]int) ([]set, bool) {
	beside, ok := readOthers(near)
	if !ok || !slices.Equal(beside, children(beside)) {
		return nil, false
	}
	return beside, true
}

// fill takes out all nodes: their order, and their bags. The edges that are added are written into beside.
func fill(beside []set) (nodes []int, bags []set) {
	var left set
	for v := range beside {
		left = left.with(v)
	}
	for range beside {
		v := fewestLacking(beside, left)
		nodes, bags = append(nodes, v), append(bags, beside[v].with(v))
		left = left.without(v)
		takeOut(beside, v)
	}
	return nodes, bags
}

// fewestLacking is the node, of these, whose neighbours lack the fewest edges; of several the least.
func fewestLacking(beside []set, left set) int {
	best, fewest := 0, -1
	for v := range left.each {
		if n := lacking(beside, v); fewest < 0 || n < fewest {
			best, fewest = v, n
		}
	}
	return best
}

// lacking is how many edges a node's neighbours lack among each other.
func lacking(beside []set, v int) int {
	ends := 0
	for u := range beside[v].each {
		ends += (beside[v] &^ beside[u]).without(u).count()
	}
	return ends / 2
}

func takeOut(beside []set, v int) {
	for u := range beside[v].each {
		beside[u] = (beside[u] | beside[v]).without(u).without(v)
	}
}

// readBags is the bags as sets: false, unless they may be.
func readBags(bags [][]int) ([]set, bool) {
	if !mayCount(len(bags)) {
		return nil, false
	}
	sets, ok := setsOf(bags, api.MaxVars)
	if !ok || slices.Contains(sets, 0) {
		return nil, false
	}
	return sets, true
}

// outermost is the bags that are in no other one, of like ones the first.
func outermost(bags []set) []set {
	var cliques []set
next:
	for i, bag := range bags {
		for j, other := range bags {
			if j != i && other.holds(bag) && (other != bag || j < i) {
				continue next
			}
		}
		cliques = append(cliques, bag)
	}
	return cliques
}

func link(cliques []set) []api.Link {
	links := make([]api.Link, 0, len(cliques)-1)
	there := set(0).with(0)
	for range len(cliques) - 1 {
		a, b := nearest(cliques, there)
		links = append(links, api.Link{A: a, B: b, Sep: (cliques[a] & cliques[b]).list()})
		there = there.with(b)
	}
	return links
}

// nearest is, of the cliques that stand there and those that do not, the two that have the most in common; of several the first ones.
func nearest(cliques []set, there set) (a, b int) {
	most := -1
	for i := range there.each {
		for j := range cliques {
			if common := (cliques[i] & cliques[j]).count(); !there.has(j) && common > most {
				a, b, most = i, j, common
			}
		}
	}
	return a, b
}
