package chance_test

import (
	"math"
	"math/big"
	"testing"

	"augur/api"
	"augur/chance"
)

// example is the diagram of the document's eighth one.
func example() api.Diagram {
	return diagram([]api.Draw{ranged(1, 3), flip(1, 4)}, knots(ending(lost()), end(6), fork(1, 1, 0), end(3), fork(1, 3, 1), fork(0, 0, 2, 4)))
}

// goes fails unless choices lead there.
func goes(t *testing.T, d api.Diagram, want api.Outcome, choices ...int) {
	t.Helper()
	if o, e := chance.Eval(d, choices); e != api.OK || o != want {
		t.Errorf("%s: %v: %d %v, not %v", told(d), choices, e, o, want)
	}
}

// counts fails unless Count is that.
func counts(t *testing.T, what string, d api.Diagram, want api.Answer) {
	t.Helper()
	if a, e := chance.Count(d); e != api.OK || toldAnswer(a) != toldAnswer(want) {
		t.Errorf("%.300s: %d %.600s, not %.600s", what, e, toldAnswer(a), toldAnswer(want))
	}
}

func TestEvalG2(t *testing.T) {
	d := example()
	goes(t, d, lost(), 0, 0)
	goes(t, d, lost(), 0, 1)
	goes(t, d, valued(6), 1, 0)
	goes(t, d, lost(), 1, 1)
	goes(t, d, valued(3), 2, 0)
	goes(t, d, valued(6), 2, 1)
	// what is not told, or no such, is the first
	goes(t, d, lost())
	goes(t, d, valued(6), 1)
	goes(t, d, valued(3), 2)
	for _, k := range []int{math.MinInt, -1, 2, 3, 16, math.MaxInt} {
		goes(t, d, valued(6), 1, k)
		goes(t, d, valued(3), 2, k)
	}
	for _, k := range []int{math.MinInt, -1, 3, 4, math.MaxInt} {
		goes(t, d, lost(), k, 0)
		goes(t, d, lost(), k, 1)
	}
	goes(t, d, valued(6), 2, 1, 5, 6, 7)
	goes(t, diagram(nil, knots(end(-7))), valued(-7), 1, 2)
	goes(t, diagram(nil, knots(end(-7), ending(stuck()))), stuck())
	goes(t, diagram([]api.Draw{flip(0, 1), ranged(3, 3)}, knots(end(4), end(5), fork(1, 1), fork(0, 0, 2))), valued(5), 1, 9)
}

func TestEvalAllG2(t *testing.T) {
	d := die(21)
	for range 3000 {
		g := drawn(&d)
		choices := make([]int, d.n(8))
		for i := range choices {
			choices[i] = d.n(6) - 1
		}
		goes(t, g, led(g, len(g.Knots)-1, choices), choices...)
		if t.Failed() {
			t.FailNow()
		}
	}
}

func TestCountG2(t *testing.T) {
	counts(t, "example 8", example(), api.Answer{Points: []api.Point{{Value: 3, P: over(1, 4)}, {Value: 6, P: over(1, 3)}}, Stuck: over(0, 1), Lost: over(5, 12)})
	counts(t, "an end", diagram(nil, knots(end(-7))), api.Answer{Points: []api.Point{{Value: -7, P: over(1, 1)}}, Stuck: over(0, 1), Lost: over(0, 1)})
	counts(t, "stuck", diagram([]api.Draw{flip(1, 2)}, knots(end(5), ending(stuck()))), api.Answer{Stuck: over(1, 1), Lost: over(0, 1)})
	counts(t, "lost", diagram(nil, knots(ending(lost()))), api.Answer{Stuck: over(0, 1), Lost: over(1, 1)})
	// outcomes of 0 are left out, values rise, and those that are alike are one
	d := diagram([]api.Draw{pick(over(1, 3), over(0, 1), over(1, 6), over(1, 6), over(1, 3)), flip(0, 1)}, knots(end(9), end(-999), end(7), end(9), end(999), fork(1, 3, 2), fork(0, 0, 2, 1, 5, 4)))
	counts(t, "alike", d, api.Answer{Points: []api.Point{{Value: -999, P: over(1, 6)}, {Value: 9, P: over(1, 2)}, {Value: 999, P: over(1, 3)}}, Stuck: over(0, 1), Lost: over(0, 1)})
}

func TestCountAllG2(t *testing.T) {
	d := die(34)
	for range 4000 {
		g := drawn(&d)
		counts(t, told(g), g, counted(g))
		if t.Failed() {
			t.FailNow()
		}
	}
}

// parity is the diagram of whether an odd number of draws come to 1: its ways are too many to be gone one by one.
func parity(draws []api.Draw) api.Diagram {
	g := diagram(draws, knots(end(0), end(1)))
	for i := len(draws) - 1; i >= 0; i-- {
		even, odd := len(g.Knots)-2, len(g.Knots)-1
		g.Knots = append(g.Knots, fork(i, even, odd), fork(i, odd, even))
	}
	g.Knots = g.Knots[:len(g.Knots)-1]
	return g
}

// TestManyWaysG2: an odd number of draws come to 1 as likely as (1 - product of (1 - 2 P)) / 2.
func TestManyWaysG2(t *testing.T) {
	for _, count := range []int{1, 2, 64, 500} {
		var draws []api.Draw
		product := big.NewRat(1, 1)
		for i := range count {
			draws = append(draws, flip(int64(1+i%3), int64(5+i%4)))
			product.Mul(product, new(big.Rat).Sub(big.NewRat(1, 1), new(big.Rat).Mul(big.NewRat(2, 1), rat(draws[i].P))))
		}
		half := big.NewRat(1, 2)
		even := new(big.Rat).Add(half, new(big.Rat).Mul(half, product))
		odd := new(big.Rat).Sub(big.NewRat(1, 1), even)
		want := api.Answer{Points: []api.Point{{Value: 0, P: lowest(even)}, {Value: 1, P: lowest(odd)}}, Stuck: over(0, 1), Lost: over(0, 1)}
		if even.Sign() == 0 {
			want.Points = want.Points[1:]
		}
		counts(t, "parity", parity(draws), want)
	}
}

// TestUncomeG2: draws that no way comes to are no matter, however many there are.
func TestUncomeG2(t *testing.T) {
	var draws []api.Draw
	for range 3000 {
		draws = append(draws, flip(1, 3), api.Draw{Kind: api.Flip, P: api.Frac{Num: "\x01", Den: long(400)}})
	}
	g := diagram(draws, knots(end(1), ending(stuck())))
	for i := len(draws) - 1; i > 0; i-- {
		g.Knots = append(g.Knots, fork(i, len(g.Knots)-1, 0))
	}
	g.Knots = append(g.Knots, fork(4, 1, 0))
	counts(t, "uncome", g, api.Answer{Points: []api.Point{{Value: 1, P: over(1, 3)}}, Stuck: over(2, 3), Lost: over(0, 1)})
}

func TestLongPartsG2(t *testing.T) {
	tiny := api.Frac{Num: "\x01", Den: long(399)}
	draws := []api.Draw{{Kind: api.Flip, P: tiny}, pick(over(1, 3), lowest(new(big.Rat).Sub(big.NewRat(2, 3), rat(tiny))), tiny), ranged(0, 15)}
	g := diagram(draws, knots(end(1), end(2), ending(lost()), fork(2, 0, 0, 0, 0, 0, 0, 0, 0, 1, 1, 1, 1, 1, 2, 2, 2), fork(1, 2, 3, 1), fork(0, 3, 4)))
	counts(t, "long", g, counted(g))
}

func TestCountP2(t *testing.T) {
	g := example()
	a, _ := chance.Count(g)
	want := toldAnswer(a)
	for i := range a.Points {
		a.Points[i] = api.Point{}
	}
	_ = append(a.Points[:1], api.Point{Value: 3})
	counts(t, "again", g, counted(g))
	if b, _ := chance.Count(g); toldAnswer(b) != want {
		t.Error("another answer")
	}
}
