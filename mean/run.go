package mean

import (
	"augur/api"
	"augur/draw"
	"augur/nat"
	"augur/weigh"
)

// come is a draw that a way comes to, and the outcome that it has there.
type come struct {
	number, outcome, outcomes int
}

// trail is the draws of a way, as they are come to. A way that is gone again takes the same outcomes, and the first of those draws that are new.
type trail struct {
	taken []come
	at    int
}

func (t *trail) choose(number int, d api.Draw) int {
	if t.at == len(t.taken) {
		t.taken = append(t.taken, come{number: number, outcomes: draw.Outcomes(d)})
	}
	t.at++
	return t.taken[t.at-1].outcome
}

// turn gives the last draw that can have it its next outcome, and forgets those behind; false, if all ways are gone.
func (t *trail) turn() bool {
	t.at = 0
	for last := len(t.taken) - 1; last >= 0; last-- {
		t.taken = t.taken[:last+1]
		if t.taken[last].outcome++; t.taken[last].outcome < t.taken[last].outcomes {
			return true
		}
	}
	return false
}

// weight is how likely a way is, in parts of the product of all wholes: draws that it does not come to have all their parts.
func weight(shares []weigh.Share, taken []come) api.Nat {
	one := nat.Of(1)
	product := one
	for number, s := range shares {
		factor := s.Whole
		if len(taken) > 0 && taken[0].number == number {
			factor = s.Parts[taken[0].outcome]
			taken = taken[1:]
		}
		if factor != one {
			product = nat.Mul(product, factor)
		}
	}
	return product
}

// answerOf goes all ways of a program that may be.
func answerOf(p api.Prog) api.Answer {
	var shares []weigh.Share
	for _, d := range drawsOf(p) {
		shares = append(shares, weigh.ShareOf(d))
	}
	var sums weigh.Tally
	var t trail
	c := countsOf(p.Defs)
	for going := true; going; going = t.turn() {
		w := way{counts: c, choose: t.choose}
		sums.Add(w.outcome(p.Body), weight(shares, t.taken))
	}
	return sums.Answer(weight(shares, nil))
}
