package mean

import (
	"augur/api"
	"augur/reckon"
)

// value works all parts of an expression out, from the left, but where the way ends in one of them.
func (w *way) value(e api.Expr) (int, bool) {
	switch e.Op {
	case api.Number:
		return e.N, true
	case api.Name:
		return w.variables[e.Name], true
	}
	var parts [api.MaxParams]int
	for i, x := range e.Args {
		v, ok := w.value(x)
		if !ok {
			return 0, false
		}
		parts[i] = v
	}
	if e.Op == api.Use {
		d := w.counts.defs[functionOf(w.counts.defs, e.Name)]
		return w.body(d.Body, d.Params, parts[:])
	}
	v, ok := reckon.Joined(e.Op, parts[0], parts[1])
	if !ok {
		w.end = api.Stuck
	}
	return v, ok
}
