// Package known: whether facts of a net may be. More than one layer says this first.
package known

import (
	"slices"

	"augur/api"
	"augur/net"
)

// Check is what is said of a net, then of its facts, from the first one on.
func Check(n api.Net, facts []api.Fact) api.Errno {
	if e := net.Check(n); e != api.OK {
		return e
	}
	for i, f := range facts {
		if f.Var < 0 || f.Var >= len(n.Vars) {
			return api.ErrVar
		}
		if f.Value < 0 || f.Value >= len(n.Vars[f.Var].Values) {
			return api.ErrValue
		}
		if IsOf(facts[:i], f.Var) {
			return api.ErrDouble
		}
	}
	return api.OK
}

// IsOf says whether one of the facts is of that variable.
func IsOf(facts []api.Fact, v int) bool {
	return slices.ContainsFunc(facts, func(f api.Fact) bool { return f.Var == v })
}
