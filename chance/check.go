package chance

import (
	"augur/api"
	"augur/draw"
	"augur/script"
)

// checkDraw says what script does of the least program that draws so.
func checkDraw(d api.Draw) api.Errno {
	roll := api.Stmt{Kind: api.Roll, Name: "x", Draw: d}
	back := api.Stmt{Kind: api.Return, Expr: api.Expr{Op: api.Number}}
	return script.Check(api.Prog{Body: []api.Stmt{roll, back}})
}

func isEnd(k api.Knot) bool {
	return k.Draw < 0
}

// isKnot says whether what stands there is an end or a fork, where all draws may be, and all knots ahead of it.
func isKnot(d api.Diagram, at int) bool {
	k := d.Knots[at]
	if isEnd(k) {
		return k.Draw == -1 && len(k.Kids) == 0 && isOutcome(k.End)
	}
	if k.Draw >= len(d.Draws) || len(k.Kids) != draw.Outcomes(d.Draws[k.Draw]) || k.End != (api.Outcome{}) {
		return false
	}
	for _, kid := range k.Kids {
		if kid < 0 || kid >= at || !isEnd(d.Knots[kid]) && d.Knots[kid].Draw <= k.Draw {
			return false
		}
	}
	return true
}

func isOutcome(o api.Outcome) bool {
	switch o.Kind {
	case api.Valued:
		return -api.MaxInt <= o.Value && o.Value <= api.MaxInt
	case api.Stuck, api.Lost:
		return o.Value == 0
	}
	return false
}
