package chance_test

import (
	"fmt"
	"math"
	"math/big"
	"slices"
	"strings"
	"testing"

	"augur/api"
	"augur/chance"
)

func TestExampleG1(t *testing.T) {
	checks(t, "example 8", api.OK, example())
}

// withDraws is a diagram of these draws that has nothing wrong in its knots.
func withDraws(l ...api.Draw) api.Diagram { return diagram(l, knots(end(1))) }

// long is a number of so many digits.
func long(digits int) api.Nat {
	n, _ := new(big.Int).SetString(strings.Repeat("9", digits), 10)
	return api.Nat(n.Bytes())
}

func TestDrawsG1(t *testing.T) {
	half, third := over(1, 2), over(1, 3)
	good := map[string]api.Draw{
		"flip 0": flip(0, 1), "flip 1": flip(1, 1), "flip 1/3": flip(1, 3), "range of one": ranged(5, 5), "range of 16": ranged(984, 999), "range below 0": ranged(-999, -990),
		"pick of one": pick(over(1, 1)), "pick with 0": pick(half, over(0, 1), half), "pick of 8": pick(slices.Repeat([]api.Frac{over(1, 8)}, 8)...),
		"values alike": {Kind: api.Pick, Values: []int{7, 7}, Weights: []api.Frac{half, half}}, "a long part": {Kind: api.Flip, P: api.Frac{Num: "\x01", Den: long(api.MaxDigits)}},
	}
	for what, d := range good {
		checks(t, what, api.OK, withDraws(d))
		checks(t, what+", twice", api.OK, withDraws(flip(1, 2), d, d))
	}
	bad := []struct {
		what string
		want api.Errno
		d    api.Draw
	}{
		{"no draw", api.ErrForm, api.Draw{}},
		{"another kind", api.ErrForm, api.Draw{Kind: 4}},
		{"a kind below 0", api.ErrForm, api.Draw{Kind: math.MinInt}},
		{"flip without a part", api.ErrForm, api.Draw{Kind: api.Flip}},
		{"flip below 0", api.ErrForm, api.Draw{Kind: api.Flip, P: api.Frac{Neg: true, Num: "\x01", Den: "\x02"}}},
		{"flip not in lowest terms", api.ErrForm, api.Draw{Kind: api.Flip, P: api.Frac{Num: "\x02", Den: "\x04"}}},
		{"flip with a nought ahead", api.ErrForm, api.Draw{Kind: api.Flip, P: api.Frac{Num: "\x00\x01", Den: "\x02"}}},
		{"flip with values", api.ErrForm, api.Draw{Kind: api.Flip, P: half, Values: []int{1}}},
		{"flip from something", api.ErrForm, api.Draw{Kind: api.Flip, P: half, Lo: 1}},
		{"range with a part", api.ErrForm, api.Draw{Kind: api.Range, Lo: 1, Hi: 2, P: over(0, 1)}},
		{"range too low", api.ErrForm, ranged(-1000, -990)},
		{"range too high", api.ErrForm, ranged(990, 1000)},
		{"range of all numbers", api.ErrForm, ranged(math.MinInt, math.MaxInt)},
		{"pick of nothing", api.ErrForm, api.Draw{Kind: api.Pick}},
		{"pick without weights", api.ErrForm, api.Draw{Kind: api.Pick, Values: []int{1}}},
		{"pick with one weight too many", api.ErrForm, api.Draw{Kind: api.Pick, Values: []int{1}, Weights: []api.Frac{half, half}}},
		{"pick of a great value", api.ErrForm, api.Draw{Kind: api.Pick, Values: []int{1000}, Weights: []api.Frac{over(1, 1)}}},
		{"pick with a weight below 0", api.ErrForm, pick(over(3, 2), api.Frac{Neg: true, Num: "\x01", Den: "\x02"})},
		{"pick of nine", api.ErrLimit, pick(slices.Repeat([]api.Frac{over(1, 9)}, 9)...)},
		{"pick of nine that are not 1", api.ErrLimit, pick(slices.Repeat([]api.Frac{half}, 9)...)},
		{"pick of nine, one of them below 0", api.ErrForm, pick(append(slices.Repeat([]api.Frac{half}, 8), api.Frac{Neg: true, Num: "\x01", Den: "\x02"})...)},
		{"flip with too many digits", api.ErrLimit, api.Draw{Kind: api.Flip, P: api.Frac{Num: "\x01", Den: long(api.MaxDigits + 1)}}},
		{"flip above 1 with too many digits", api.ErrLimit, api.Draw{Kind: api.Flip, P: api.Frac{Num: long(api.MaxDigits + 1), Den: "\x01"}}},
		{"pick with too many digits", api.ErrLimit, pick(half, api.Frac{Num: "\x01", Den: long(api.MaxDigits + 1)})},
		{"flip above 1", api.ErrSum, flip(4, 3)},
		{"pick below 1", api.ErrSum, pick(half, third)},
		{"pick above 1", api.ErrSum, pick(half, half, third)},
		{"range back", api.ErrLimit, ranged(2, 1)},
		{"range of 17", api.ErrLimit, ranged(0, 16)},
	}
	for _, c := range bad {
		checks(t, c.what, c.want, withDraws(c.d))
		checks(t, c.what+", behind others", c.want, withDraws(flip(1, 2), ranged(1, 2), c.d))
		checks(t, c.what+", and no knots", c.want, diagram([]api.Draw{c.d}, nil))
		checks(t, c.what+", and knots that are none", c.want, diagram([]api.Draw{c.d}, knots(fork(7))))
		// the first draw that has a fault, whatever stands behind it
		for _, other := range bad {
			checks(t, c.what+", ahead of "+other.what, c.want, withDraws(c.d, other.d))
		}
	}
}

func TestNoKnotsG1(t *testing.T) {
	checks(t, "nothing", api.ErrCount, api.Diagram{})
	checks(t, "just draws", api.ErrCount, diagram([]api.Draw{flip(1, 2)}, nil))
	checks(t, "just draws, an empty list", api.ErrCount, diagram([]api.Draw{flip(1, 2)}, knots()))
}

// TestKnotsG1: knots one by one: each behind the ends 0 and 1, the forks 2 (of draw 1) and 3 (of draw 2), of the draws of 2, 3, 2 and 1 outcomes; also where the root is another one.
func TestKnotsG1(t *testing.T) {
	draws := []api.Draw{flip(1, 2), ranged(1, 3), pick(over(1, 3), over(2, 3)), ranged(4, 4)}
	ahead := knots(end(1), ending(lost()), fork(1, 0, 1, 1), fork(2, 1, 0))
	any := []int{math.MinInt, -1000, -2, 4, 5, 1000, math.MaxInt}
	good := map[string]api.Knot{
		"999": end(999), "-999": end(-999), "0": end(0), "stuck": ending(stuck()), "lost": ending(lost()), "an end, an empty list of kids": {Draw: -1, Kids: []int{}, End: valued(1)},
		"a fork to forks": fork(0, 2, 3), "a fork to itself not": fork(0, 3, 3), "to ends": fork(0, 0, 1), "to the same": fork(1, 0, 0, 0), "to a later draw": fork(1, 3, 3, 0), "like another": fork(1, 0, 1, 1), "of one outcome": fork(3, 0), "the last draw": fork(3, 1),
	}
	bad := map[string]api.Knot{
		"nothing": {}, "1000": end(1000), "-1000": end(-1000), "an end of no kind": ending(api.Outcome{}), "a value of no kind": ending(api.Outcome{Value: 5}), "another kind": ending(api.Outcome{Kind: 4}), "a kind below 0": ending(api.Outcome{Kind: -1}),
		"stuck with a value": ending(api.Outcome{Kind: api.Stuck, Value: 1}), "lost with a value": ending(api.Outcome{Kind: api.Lost, Value: -1}), "the greatest value": end(math.MaxInt), "the least value": end(math.MinInt),
		"an end with a kid": {Draw: -1, Kids: []int{0}, End: valued(1)}, "a fork that is an end": {Draw: 0, Kids: []int{0, 1}, End: valued(1)}, "a fork with a value": {Draw: 0, Kids: []int{0, 1}, End: api.Outcome{Value: 1}}, "a fork with a kind": {Draw: 0, Kids: []int{0, 1}, End: lost()},
		"a fork without kids": fork(0), "too few kids": fork(1, 0, 1), "too many kids": fork(0, 0, 1, 0), "as many as another draw": fork(0, 0, 0, 1), "too many for one": fork(3, 0, 0),
		"to its own draw": fork(1, 0, 2, 1), "to its own draw, first": fork(1, 2, 0, 0), "to its own draw, last": fork(2, 0, 3), "to a draw ahead": fork(2, 2, 0), "to a draw ahead, last": fork(2, 0, 2), "to a draw ahead, of one": fork(3, 2),
	}
	for _, k := range any {
		bad[fmt.Sprint("a kid that is not ahead, last: ", k)] = fork(0, 0, k)
		bad[fmt.Sprint("a kid that is not ahead, first: ", k)] = fork(0, k, 0)
		bad[fmt.Sprint("a draw that is not there: ", k)] = fork(k, 0, 1)
		bad[fmt.Sprint("a draw that is not there, without kids: ", k)] = fork(k)
	}
	for _, draw := range any[:3] {
		bad[fmt.Sprint("an end of another draw: ", draw)] = api.Knot{Draw: draw, End: valued(1)}
	}
	say := func(what string, want api.Errno, k api.Knot) {
		t.Helper()
		checks(t, what, want, diagram(draws, append(slices.Clone(ahead), k)))
		checks(t, what+", and another root", want, diagram(draws, append(slices.Clone(ahead), k, end(3))))
		checks(t, what+", and another fork behind", want, diagram(draws, append(slices.Clone(ahead), k, fork(0, 2, 3))))
	}
	for what, k := range good {
		say(what, api.OK, k)
	}
	for what, k := range bad {
		say(what, api.ErrForm, k)
	}
	checks(t, "a fork first", api.ErrForm, diagram(draws, knots(fork(0, 0, 0), end(1))))
	checks(t, "a fork to itself", api.ErrForm, diagram(draws, knots(fork(0, 0, 0))))
	checks(t, "a kid behind", api.ErrForm, diagram(draws, knots(end(1), fork(0, 2, 2), end(2))))
	checks(t, "no draws", api.ErrForm, diagram(nil, knots(end(1), fork(0, 0, 0))))
}

// isKnot is G1, word by word.
func isKnot(d api.Diagram, at int) bool {
	k := d.Knots[at]
	value := k.End.Kind == api.Valued && k.End.Value >= -999 && k.End.Value <= 999 || k.End.Kind == api.Stuck && k.End.Value == 0 || k.End.Kind == api.Lost && k.End.Value == 0
	if k.Draw == -1 && len(k.Kids) == 0 && value {
		return true
	}
	if k.Draw < 0 || k.Draw >= len(d.Draws) || len(k.Kids) != len(chances(d.Draws[k.Draw])) || k.End.Kind != 0 || k.End.Value != 0 {
		return false
	}
	for _, kid := range k.Kids {
		if kid < 0 || kid >= at {
			return false
		}
		for less := 0; less <= k.Draw; less++ {
			if d.Knots[kid].Draw == less {
				return false
			}
		}
	}
	return true
}

// TestSpoiltG1: diagrams with a field that has anything.
func TestSpoiltG1(t *testing.T) {
	d := die(3)
	may := 0
	for range 20000 {
		g := drawn(&d)
		checks(t, "drawn", api.OK, g)
		k := &g.Knots[d.n(len(g.Knots))]
		any := []int{math.MinInt, -1000, -2, -1, 0, 1, 2, 3, 4, 5, 999, 1000, math.MaxInt}[d.n(13)]
		switch d.n(6) {
		case 0:
			k.Draw = any
		case 1:
			k.End.Kind = any
		case 2:
			k.End.Value = any
		case 3:
			k.Kids = append(k.Kids, any)
		case 4:
			if len(k.Kids) > 0 {
				k.Kids[d.n(len(k.Kids))] = any
			}
		case 5:
			from, to := d.n(len(g.Knots)+1), d.n(len(g.Knots)+1)
			g.Knots = g.Knots[min(from, to):max(from, to)]
		}
		want := api.OK
		if len(g.Knots) == 0 {
			want = api.ErrCount
		}
		for at := range g.Knots {
			if want == api.OK && !isKnot(g, at) {
				want = api.ErrForm
			}
		}
		if want == api.OK {
			may++
		}
		checks(t, told(g), want, g)
		if t.Failed() {
			t.FailNow()
		}
	}
	if may < 2000 || may > 18000 {
		t.Error("so many may be:", may)
	}
}

func TestCheckP2(t *testing.T) {
	d := die(8)
	for range 200 {
		g := drawn(&d)
		choices := []int{1, 2, 0, 1}
		before := told(g)
		chance.Check(g)
		chance.Eval(g, choices)
		chance.Count(g)
		if told(g) != before || !slices.Equal(choices, []int{1, 2, 0, 1}) {
			t.Fatal("written into", before, told(g))
		}
	}
}
