package graph

import (
	"augur/api"
)

func mayCount(nodes int) bool {
	return nodes >= 1 && nodes <= api.MaxVars
}

// read is the parents of each node, or what Check says.
func read(parents [][]int) ([]set, api.Errno) {
	up, ok := readOthers(parents)
	if !ok {
		return nil, api.ErrVar
	}
	if len(order(up)) < len(up) {
		return nil, api.ErrCycle
	}
	return up, api.OK
}

// readOthers is the set of each node's list: false, unless it is of other nodes.
func readOthers(l [][]int) ([]set, bool) {
	if !mayCount(len(l)) {
		return nil, false
	}
	sets, ok := setsOf(l, len(l))
	for v, s := range sets {
		if s.has(v) {
			return nil, false
		}
	}
	return sets, ok
}

// order takes again and again the least node whose parents stand there; it ends early where a cycle is.
func order(up []set) []int {
	var there set
	l := make([]int, 0, len(up))
next:
	for range up {
		for v, parents := range up {
			if !there.has(v) && there.holds(parents) {
				l, there = append(l, v), there.with(v)
				continue next
			}
		}
		break
	}
	return l
}

// above is these and all above them. No node is more steps above another than there are nodes.
func above(up []set, s set) set {
	for range up {
		for v := range s.each {
			s |= up[v]
		}
	}
	return s
}

func children(up []set) []set {
	down := make([]set, len(up))
	for v, parents := range up {
		for u := range parents.each {
			down[u] = down[u].with(v)
		}
	}
	return down
}
