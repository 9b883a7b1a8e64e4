package chance

import (
	"slices"

	"augur/api"
)

// maxOutcomes is how many outcomes a draw has at most: the values of a range.
const maxOutcomes = 16

// maxWebs is how many webs are gone through together at most.
const maxWebs = 3

// web is what something is worth on each way of a program, as knots: none alike, no fork whose kids are all the same, told in the order of a diagram, the root last. It is never written into again.
type web []api.Knot

// mark is what tells knots apart: a fork's draw and kids; of an end -1, its kind and its value.
type mark [1 + maxOutcomes]int32

// loom makes a web, knot by knot, kids first.
type loom struct {
	web    web
	places map[mark]int
}

func (l *loom) end(o api.Outcome) int {
	m := mark{-1, int32(o.Kind), int32(o.Value)}
	if place, ok := l.places[m]; ok {
		return place
	}
	return l.add(m, api.Knot{Draw: -1, End: o})
}

// fork is the kid itself, where there is but one: what is drawn is no matter then.
func (l *loom) fork(draw int, kids []int) int {
	m := mark{int32(draw)}
	forks := false
	for i, kid := range kids {
		m[1+i] = int32(kid)
		forks = forks || kid != kids[0]
	}
	if !forks {
		return kids[0]
	}
	if place, ok := l.places[m]; ok {
		return place
	}
	return l.add(m, api.Knot{Draw: draw, Kids: slices.Clone(kids)})
}

func (l *loom) add(m mark, k api.Knot) int {
	place := len(l.web)
	l.web = append(l.web, k)
	l.places[m] = place
	return place
}

// endOf is worth the same on all ways.
func endOf(o api.Outcome) web {
	return web{{Draw: -1, End: o}}
}

// spot is a place in each of the webs that are gone through together.
type spot [maxWebs]int

// ends are those that the webs come to, Outcome{} where there are fewer webs.
type ends [maxWebs]api.Outcome

// together is worth on each way what join makes of what the webs are worth on it. Knots that were gone through together are not gone through again. Kids are made from the first on, ahead of their fork: so what is made stands in the order of a diagram.
func together(join func(ends) api.Outcome, webs ...web) web {
	root, most := roots(webs)
	if _, outcomes := next(webs, root); outcomes == 0 {
		return endOf(join(endsAt(webs, root)))
	}
	made, done := loom{places: make(map[mark]int, most)}, make(map[spot]int, most)
	var from func(at spot) int
	from = func(at spot) int {
		draw, outcomes := next(webs, at)
		if outcomes == 0 {
			return made.end(join(endsAt(webs, at)))
		}
		if place, ok := done[at]; ok {
			return place
		}
		var kids [maxOutcomes]int
		for i := range outcomes {
			kids[i] = from(below(webs, at, draw, i))
		}
		done[at] = made.fork(draw, kids[:outcomes])
		return done[at]
	}
	from(root)
	return made.web
}

// roots is where webs begin, and how many knots the greatest has.
func roots(webs []web) (at spot, most int) {
	for i, w := range webs {
		at[i] = len(w) - 1
		most = max(most, len(w))
	}
	return at, most
}

// next is the first draw at which one of the webs forks there, and how many outcomes it has; none, where all end.
func next(webs []web, at spot) (draw, outcomes int) {
	for i, w := range webs {
		k := &w[at[i]]
		if k.Draw >= 0 && (outcomes == 0 || k.Draw < draw) {
			draw, outcomes = k.Draw, len(k.Kids)
		}
	}
	return draw, outcomes
}

// below is where an outcome of a draw leads: webs that don't fork at it stay.
func below(webs []web, at spot, draw, outcome int) spot {
	for i, w := range webs {
		if k := &w[at[i]]; k.Draw == draw {
			at[i] = k.Kids[outcome]
		}
	}
	return at
}

func endsAt(webs []web, at spot) ends {
	var e ends
	for i, w := range webs {
		e[i] = w[at[i]].End
	}
	return e
}
