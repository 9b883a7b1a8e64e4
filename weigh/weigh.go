// Package weigh: chances in whole parts of one whole: so they are added without bringing fractions to lowest terms again and again.
package weigh

import (
	"augur/api"
	"augur/draw"
	"augur/frac"
	"augur/nat"
)

// Share is a draw's chances: so many parts in all, and those of each outcome.
type Share struct {
	Whole api.Nat
	Parts []api.Nat
}

// ShareOf is that of a draw that may be.
func ShareOf(d api.Draw) Share {
	chances := draw.Chances(d)
	s := Share{Whole: nat.Of(1)}
	for _, c := range chances {
		s.Whole = nat.Mul(s.Whole, through(c.Den, nat.Gcd(s.Whole, c.Den)))
	}
	for _, c := range chances {
		s.Parts = append(s.Parts, nat.Mul(c.Num, through(s.Whole, c.Den)))
	}
	return s
}

// through is a quotient without a rest.
func through(a, b api.Nat) api.Nat {
	q, _, _ := nat.Div(a, b)
	return q
}

// Tally is what ways of each outcome weigh together.
type Tally struct {
	values      [2*api.MaxInt + 1]api.Nat // from -MaxInt on
	stuck, lost api.Nat
}

// Add lets an outcome weigh more.
func (t *Tally) Add(o api.Outcome, weight api.Nat) {
	sum := &t.values[o.Value+api.MaxInt]
	switch o.Kind {
	case api.Stuck:
		sum = &t.stuck
	case api.Lost:
		sum = &t.lost
	}
	*sum = nat.Add(*sum, weight)
}

// Answer tells what the outcomes weigh, of a whole.
func (t *Tally) Answer(whole api.Nat) api.Answer {
	a := api.Answer{Stuck: frac.Make(false, t.stuck, whole), Lost: frac.Make(false, t.lost, whole)}
	for i, sum := range t.values {
		if sum != "" {
			a.Points = append(a.Points, api.Point{Value: i - api.MaxInt, P: frac.Make(false, sum, whole)})
		}
	}
	return a
}
