package graph

// coming is how a way comes to a node: from a child of it, or from a parent.
type coming struct {
	node      int
	fromChild bool
}

// isOpen says whether an open way goes from one of x to one of y, where z is known.
// It looks for ways that may come to a node more than once: wherever one of these is open, so is one that leaves out what lies between.
func isOpen(up []set, x, y, z set) bool {
	down, meets := children(up), above(up, z)
	been := map[coming]struct{}{}
	// The beginning goes on to parents and children alike, as what comes from a child and is not of z.
	waiting := comings(nil, x, true)
next:
	for len(waiting) > 0 {
		at := waiting[len(waiting)-1]
		waiting = waiting[:len(waiting)-1]
		if _, ok := been[at]; ok {
			continue next
		}
		been[at] = struct{}{}
		if y.has(at.node) {
			return true
		}
		if at.fromChild && !z.has(at.node) || !at.fromChild && meets.has(at.node) {
			waiting = comings(waiting, up[at.node], true)
		}
		if !z.has(at.node) {
			waiting = comings(waiting, down[at.node], false)
		}
	}
	return false
}

// comings is the list with each node of a set behind it.
func comings(l []coming, nodes set, fromChild bool) []coming {
	for v := range nodes.each {
		l = append(l, coming{v, fromChild})
	}
	return l
}
