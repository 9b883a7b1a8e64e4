package mean

import (
	"augur/api"
	"augur/draw"
	"augur/frac"
	"augur/nat"
)

// come is a draw that a way comes to, and the outcome that it has there.
type come struct {
	number, outcome, outcomes int
}

// trail is the draws of a way, as they are come to. A way that is gone again takes the same outcomes, and the first of those draws that are new.
type trail struct {
	taken []come
	at    int
}

func (t *trail) choose(number int, d api.Draw) int {
	if t.at == len(t.taken) {
		t.taken = append(t.taken, come{number: number, outcomes: draw.Outcomes(d)})
	}
	t.at++
	return t.taken[t.at-1].outcome
}

// turn gives the last draw that can have it its next outcome, and forgets those behind; false, if all ways are gone.
func (t *trail) turn() bool {
	t.at = 0
	for last := len(t.taken) - 1; last >= 0; last-- {
		t.taken = t.taken[:last+1]
		if t.taken[last].outcome++; t.taken[last].outcome < t.taken[last].outcomes {
			return true
		}
	}
	return false
}

// share is a draw's chances in whole numbers: so many parts in all, and those of each outcome.
type share struct {
	whole api.Nat
	parts []api.Nat
}

func shareOf(d api.Draw) share {
	chances := draw.Chances(d)
	s := share{whole: nat.Of(1)}
	for _, c := range chances {
		s.whole = nat.Mul(s.whole, through(c.Den, nat.Gcd(s.whole, c.Den)))
	}
	for _, c := range chances {
		s.parts = append(s.parts, nat.Mul(c.Num, through(s.whole, c.Den)))
	}
	return s
}

// through is a quotient without a rest.
func through(a, b api.Nat) api.Nat {
	q, _, _ := nat.Div(a, b)
	return q
}

// weight is how likely a way is, in parts of the product of all wholes: draws that it does not come to have all their parts. So ways are added without bringing fractions to lowest terms again and again.
func weight(shares []share, taken []come) api.Nat {
	one := nat.Of(1)
	product := one
	for number, s := range shares {
		factor := s.whole
		if len(taken) > 0 && taken[0].number == number {
			factor = s.parts[taken[0].outcome]
			taken = taken[1:]
		}
		if factor != one {
			product = nat.Mul(product, factor)
		}
	}
	return product
}

// tally is what ways of each outcome weigh together.
type tally struct {
	values      [2*api.MaxInt + 1]api.Nat // from -MaxInt on
	stuck, lost api.Nat
}

func (t *tally) add(o api.Outcome, weight api.Nat) {
	sum := &t.values[o.Value+api.MaxInt]
	switch o.Kind {
	case api.Stuck:
		sum = &t.stuck
	case api.Lost:
		sum = &t.lost
	}
	*sum = nat.Add(*sum, weight)
}

// answer tells what the outcomes weigh, of a whole.
func (t *tally) answer(whole api.Nat) api.Answer {
	a := api.Answer{Stuck: frac.Make(false, t.stuck, whole), Lost: frac.Make(false, t.lost, whole)}
	for i, sum := range t.values {
		if sum != "" {
			a.Points = append(a.Points, api.Point{Value: i - api.MaxInt, P: frac.Make(false, sum, whole)})
		}
	}
	return a
}

// answerOf goes all ways of a program that may be.
func answerOf(p api.Prog) api.Answer {
	var shares []share
	for _, d := range drawsOf(p) {
		shares = append(shares, shareOf(d))
	}
	var sums tally
	var t trail
	c := countsOf(p.Defs)
	for going := true; going; going = t.turn() {
		w := way{counts: c, choose: t.choose}
		sums.add(w.outcome(p.Body), weight(shares, t.taken))
	}
	return sums.answer(weight(shares, nil))
}
