package walk

import (
	"slices"

	"augur/api"
	"augur/frac"
	"augur/graph"
	"augur/nat"
	"augur/net"
	"augur/table"
)

// maxDice is of how many numbers a die is one, at most.
const maxDice = 1_000_000

// areChances says whether these are the chances of things of which one is so.
func areChances(p []api.Frac) bool {
	return !slices.ContainsFunc(p, isBelow) && frac.Cmp(frac.Sum(p), frac.Of(1)) == 0
}

func isDie(k, of int) bool {
	return of >= 1 && of <= maxDice && k >= 0 && k < of
}

// shares is, of each of p's things, how many of so many dice draw it or one ahead of it: whole numbers, which many dice may be held against.
func shares(p []api.Frac, of int) []int {
	counts := make([]int, len(p))
	sum := frac.Of(0)
	for i, f := range p {
		sum = frac.Add(sum, f)
		counts[i] = roundUp(frac.Mul(sum, frac.Of(of)))
	}
	return counts
}

// roundUp is how many dice, from 0 on, are less than f, which is at most maxDice: of a part of 1 there is one, too.
func roundUp(f api.Frac) int {
	whole, rest, _ := nat.Div(f.Num, f.Den)
	count, _ := nat.Int(whole)
	if len(rest) > 0 {
		count++
	}
	return count
}

// drawn is what a die draws: the first thing that has it in its share.
func drawn(counts []int, die int) int {
	return slices.IndexFunc(counts, func(count int) bool { return count > die })
}

// turn is that of a variable, where those near it have the values that stand at a place.
type turn struct {
	v, place int
}

// walker goes from assignment to assignment by dice of so many numbers. Walks come by what they came by before: how the dice are shared out then is worked out once.
type walker struct {
	net    api.Net
	of     int
	sizes  []int
	near   [][]int // of each variable those that matter to how it is drawn
	shares map[turn][]int
}

func newWalker(n api.Net, of int) walker {
	near, _ := graph.Moral(n.Parents)
	return walker{net: n, of: of, sizes: net.Sizes(n), near: near, shares: map[turn][]int{}}
}

// step is the assignment behind a die, which draws v anew.
func (w walker) step(at []int, v, die int) []int {
	next := slices.Clone(at)
	if counts := w.sharesAt(at, v); len(counts) > 0 {
		next[v] = drawn(counts, die)
	}
	return next
}

// sharesAt is nothing where v stays. (Whether the rest may be is no matter of those near v alone.)
func (w walker) sharesAt(at []int, v int) []int {
	if !restMayBe(w.net, at, v) {
		return nil
	}
	values := make([]int, len(w.near[v]))
	for i, u := range w.near[v] {
		values[i] = at[u]
	}
	place, _ := table.Index(w.sizes, w.near[v], values)
	counts, ok := w.shares[turn{v, place}]
	if !ok {
		counts = shares(anew(w.net, at, v), w.of)
		w.shares[turn{v, place}] = counts
	}
	return counts
}
