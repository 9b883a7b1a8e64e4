// Package draw: the outcomes of draws. More than one layer counts with them.
package draw

import (
	"slices"

	"augur/api"
	"augur/frac"
	"augur/nat"
)

// Outcomes is how many a draw has; where there is no draw, all goes one way.
func Outcomes(d api.Draw) int {
	switch d.Kind {
	case api.Flip:
		return 2
	case api.Range:
		return d.Hi - d.Lo + 1
	case api.Pick:
		return len(d.Values)
	}
	return 1
}

// Value is what comes out, of an outcome that the draw has.
func Value(d api.Draw, outcome int) int {
	switch d.Kind {
	case api.Range:
		return d.Lo + outcome
	case api.Pick:
		return d.Values[outcome]
	}
	return outcome
}

// Chances is how likely each outcome is, of a draw that may be.
func Chances(d api.Draw) []api.Frac {
	switch d.Kind {
	case api.Flip:
		return []api.Frac{frac.Sub(frac.Of(1), d.P), d.P}
	case api.Pick:
		return slices.Clone(d.Weights)
	}
	count := Outcomes(d)
	return slices.Repeat([]api.Frac{frac.Make(false, nat.Of(1), nat.Of(count))}, count)
}
