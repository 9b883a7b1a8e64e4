package walk_test

import (
	"fmt"
	"math"
	"math/big"
	"reflect"
	"slices"
	"sync"
	"testing"

	"augur/api"
	"augur/chain"
	"augur/frac"
	"augur/net"
	"augur/walk"
)

func TestGibbsK1(t *testing.T) {
	otherwise, noughts, moved := 0, 0, 0
	each(t, 80, func(d *die, n api.Net, facts []api.Fact, all []way) {
		v := d.n(len(n.Vars))
		if isOf(facts, v) {
			return
		}
		m, e := walk.Gibbs(n, facts, v)
		if e != api.OK || len(m) != len(all) {
			t.Fatalf("%s, %d: %d rows, error %d; %d are wanted", told(n, facts), v, len(m), e, len(all))
		}
		for i, row := range m {
			want, moves := behind(all, facts, v, i)
			switch {
			case moves:
				moved++
			case has(all[i].at, facts):
				noughts++
			default:
				otherwise++
			}
			if len(row) != len(all) {
				t.Fatalf("%s, %d: row %d has %d numbers", told(n, facts), v, i, len(row))
			}
			for k, f := range row {
				if f != lowest(want[k]) {
					t.Fatalf("%s, %d: from %v to %v: %v, %s is wanted", told(n, facts), v, all[i].at, all[k].at, f, want[k])
				}
			}
		}
	})
	if otherwise < 100 || noughts < 100 || moved < 1000 {
		t.Errorf("just %d have not all facts, in %d nothing may be, %d go on", otherwise, noughts, moved)
	}
}

// With each assignment's Joint as weight, 0 where it has not all facts, as much goes from any to any other as back; so a step leaves the weights as they are.
func TestGibbsTurnsK1(t *testing.T) {
	each(t, 40, func(d *die, n api.Net, facts []api.Fact, all []way) {
		v := d.n(len(n.Vars))
		m, e := walk.Gibbs(n, facts, v)
		if isOf(facts, v) {
			if e != api.ErrDouble || len(m) != 0 {
				t.Fatalf("%s, %d: %d rows, error %d; ErrDouble is wanted", told(n, facts), v, len(m), e)
			}
			return
		}
		weights := make([]*big.Rat, len(all))
		for i, w := range all {
			weights[i] = new(big.Rat)
			if has(w.at, facts) {
				weights[i] = w.p
			}
		}
		for i, row := range m {
			sum := new(big.Rat)
			for k, f := range row {
				forth, back := new(big.Rat).Mul(weights[i], rat(f)), new(big.Rat).Mul(weights[k], rat(m[k][i]))
				if forth.Cmp(back) != 0 {
					t.Fatalf("%s, %d: from %v to %v %s, back %s", told(n, facts), v, all[i].at, all[k].at, forth, back)
				}
				sum.Add(sum, back)
			}
			if sum.Cmp(weights[i]) != 0 {
				t.Fatalf("%s, %d: at %v %s, a step on %s", told(n, facts), v, all[i].at, weights[i], sum)
			}
		}
	})
}

func TestGibbsEdgesK1(t *testing.T) {
	for _, c := range []struct {
		text  string
		facts []api.Fact
		v     int
		want  string
	}{
		{"var a { x } a : 1 ;", nil, 0, "1"},
		{"var a { x y z } a : 1/2 1/3 1/6 ;", nil, 0, "1/2 1/3 1/6; 1/2 1/3 1/6; 1/2 1/3 1/6"},
		{"var a { x y } a : 0 1 ;", nil, 0, "0 1; 0 1"},
		{"var a { x y } var b { x y } a : 1/2 1/2 ; b | a { x : 1/3 2/3 ; y : 3/4 1/4 ; }", nil, 1, "1/3 2/3 0 0; 1/3 2/3 0 0; 0 0 3/4 1/4; 0 0 3/4 1/4"},
		{"var a { x y } var b { x y } a : 1/2 1/2 ; b | a { x : 1/3 2/3 ; y : 3/4 1/4 ; }", nil, 0, "4/13 0 9/13 0; 0 8/11 0 3/11; 4/13 0 9/13 0; 0 8/11 0 3/11"},
		{"var a { x y } var b { x y } a : 1/2 1/2 ; b | a { x : 1/3 2/3 ; y : 3/4 1/4 ; }", []api.Fact{{Var: 1, Value: 0}}, 0, "4/13 0 9/13 0; 0 1 0 0; 4/13 0 9/13 0; 0 0 0 1"},
		// The others can't be as they are, for no reason of v's: it stays.
		{"var a { x y } var b { x y } a : 1 0 ; b : 1/2 1/2 ;", nil, 1, "1/2 1/2 0 0; 1/2 1/2 0 0; 0 0 1 0; 0 0 0 1"},
		// A value of v with which they can't be, and all of them.
		{"var a { x y } var b { x y } a : 1/2 1/2 ; b | a { x : 1 0 ; y : 1/2 1/2 ; }", nil, 0, "2/3 0 1/3 0; 0 0 0 1; 2/3 0 1/3 0; 0 0 0 1"},
		{"var a { x y } var b { x y } a : 1/2 1/2 ; b | a { else : 1 0 ; }", nil, 0, "1/2 0 1/2 0; 0 1 0 0; 1/2 0 1/2 0; 0 0 0 1"},
		// A parent behind its child.
		{"var a { x y } var b { x y } b : 1/2 1/2 ; a | b { x : 1/3 2/3 ; y : 3/4 1/4 ; }", nil, 0, "1/3 0 2/3 0; 0 3/4 0 1/4; 1/3 0 2/3 0; 0 3/4 0 1/4"},
	} {
		m, e := walk.Gibbs(parsed(t, c.text), c.facts, c.v)
		if e != api.OK || rows(m) != c.want {
			t.Errorf("%s, %v, %d: %s, error %d; %s is wanted", c.text, c.facts, c.v, rows(m), e, c.want)
		}
	}
}

func TestGibbsFaultsK1(t *testing.T) {
	for what, n := range spoilt(t) {
		for _, facts := range [][]api.Fact{nil, {{Var: 0}}, {{Var: 9}}, {{Var: 0, Value: 9}}, {{Var: 0}, {Var: 0}}} {
			for _, v := range []int{0, 9} {
				if m, e := walk.Gibbs(n, facts, v); e != net.Check(n) || len(m) != 0 {
					t.Errorf("%s, %v, %d: %s, error %d; %d is wanted", what, facts, v, rows(m), e, net.Check(n))
				}
			}
		}
	}
	small, great := loose(2, 1, 3), loose(2, 3, 3, 4)
	for _, c := range []struct {
		n     api.Net
		facts []api.Fact
		v     int
		want  api.Errno
	}{
		{small, nil, 0, api.OK}, {small, nil, 2, api.OK}, {small, []api.Fact{{Var: 2, Value: 2}, {Var: 0, Value: 1}}, 1, api.OK},
		{small, []api.Fact{{Var: -1}}, 0, api.ErrVar}, {small, []api.Fact{{Var: 3}}, 0, api.ErrVar}, {small, []api.Fact{{Var: 0, Value: 2}}, 1, api.ErrValue},
		{small, []api.Fact{{Var: 0, Value: -1}}, 1, api.ErrValue}, {small, []api.Fact{{Var: 0}, {Var: 0}}, 1, api.ErrDouble},
		{small, nil, -1, api.ErrVar}, {small, nil, 3, api.ErrVar}, {small, nil, math.MaxInt, api.ErrVar}, {small, nil, math.MinInt, api.ErrVar},
		{small, []api.Fact{{Var: 1}}, 1, api.ErrDouble}, {small, []api.Fact{{Var: 0}, {Var: 2}}, 2, api.ErrDouble},
		{great, nil, 0, api.ErrLimit}, {great, []api.Fact{{Var: 3}}, 0, api.ErrLimit}, // though few have the fact
		{loose(4, 4, 4), nil, 1, api.OK}, {loose(2, 2, 2, 2, 2, 2, 1, 1), nil, 7, api.OK}, {loose(4, 4, 4, 2), nil, 1, api.ErrLimit},
		{loose(4, 4, 4, 4, 4, 4, 4, 4), nil, 0, api.ErrLimit},
		// Of two faults the one that is named first.
		{small, []api.Fact{{Var: 0, Value: 2}}, 3, api.ErrValue}, {small, []api.Fact{{Var: 9}}, 0, api.ErrVar}, {small, []api.Fact{{Var: 0, Value: 2}}, 0, api.ErrValue},
		{great, nil, 4, api.ErrVar}, {great, []api.Fact{{Var: 1}}, 1, api.ErrDouble}, {great, []api.Fact{{Var: 1, Value: 3}}, 1, api.ErrValue},
	} {
		m, e := walk.Gibbs(c.n, c.facts, c.v)
		if e != c.want || e != api.OK && len(m) != 0 {
			t.Errorf("Gibbs(%v, %v, %d): %d rows, error %d; %d is wanted", net.Sizes(c.n), c.facts, c.v, len(m), e, c.want)
		}
	}
}

// drawnWeights are some, in any form, that are often 0.
func drawnWeights(d *die, count int) []api.Frac {
	var w []api.Frac
	for range count {
		w = append(w, odd(d, big.NewRat(int64(d.n(5)), int64(1+d.n(7)))))
	}
	return w
}

func eachProposal(times int, try func(w []api.Frac, q [][]api.Frac)) {
	d := die(17)
	for i := range times {
		count := 1 + i%api.MaxStates
		most := 2 + d.n(6)
		var q [][]api.Frac
		for range count {
			q = append(q, drawnRow(&d, count, most))
		}
		try(drawnWeights(&d, count), q)
	}
}

func TestMetropolisK2(t *testing.T) {
	less, asProposed, nothing := 0, 0, 0
	eachProposal(600, func(w []api.Frac, q [][]api.Frac) {
		m, e := walk.Metropolis(w, q)
		if e != api.OK || chain.Check(m) != api.OK || len(m) != len(q) {
			t.Fatalf("%s, %s: %s, error %d", texts(w), rows(q), rows(m), e)
		}
		for i := range q {
			stays := big.NewRat(1, 1)
			for k := range q {
				if k == i {
					continue
				}
				want := rat(q[i][k])
				if rat(w[i]).Sign() > 0 {
					most := new(big.Rat).Mul(rat(w[k]), rat(q[k][i]))
					if most.Quo(most, rat(w[i])); most.Cmp(want) < 0 {
						want = most
						less++
					} else {
						asProposed++
					}
				} else {
					nothing++
				}
				stays.Sub(stays, want)
				if m[i][k] != lowest(want) {
					t.Fatalf("%s, %s: %s; %s is wanted from %d to %d", texts(w), rows(q), rows(m), want, i, k)
				}
			}
			if m[i][i] != lowest(stays) {
				t.Fatalf("%s, %s: %s; %s is wanted to stay in %d", texts(w), rows(q), rows(m), stays, i)
			}
		}
	})
	if less < 300 || asProposed < 300 || nothing < 300 {
		t.Errorf("just %d are less than proposed, %d as proposed, %d from where nothing weighs", less, asProposed, nothing)
	}
}

// With w as weight as much goes from any state to any other as back; so a step leaves w as it is.
func TestMetropolisTurnsK2(t *testing.T) {
	eachProposal(300, func(w []api.Frac, q [][]api.Frac) {
		m, _ := walk.Metropolis(w, q)
		for i := range m {
			for k := range m {
				if frac.Cmp(frac.Mul(w[i], m[i][k]), frac.Mul(w[k], m[k][i])) != 0 {
					t.Fatalf("%s, %s: %s: from %d to %d", texts(w), rows(q), rows(m), i, k)
				}
			}
		}
		next, e := chain.Step(w, m)
		if e != api.OK || texts(next) != texts(w) {
			t.Fatalf("%s, %s: %s: a step on %s, error %d", texts(w), rows(q), rows(m), texts(next), e)
		}
	})
}

func TestMetropolisEdgesK2(t *testing.T) {
	six := "1 0 0 0 0 0; 0 1 0 0 0 0; 0 0 1 0 0 0; 0 0 0 1 0 0; 0 0 0 0 1 0; 0 0 0 0 0 1"
	for _, c := range []struct{ w, q, want string }{
		{"1 3", "1/2 1/2; 1/2 1/2", "1/2 1/2; 1/6 5/6"},
		{"1/4 3/4", "1/2 1/2; 1/2 1/2", "1/2 1/2; 1/6 5/6"},
		{"5", "1", "1"}, {"0", "1", "1"},
		{"0 0", "1/3 2/3; 1/4 3/4", "1/3 2/3; 1/4 3/4"},
		{"0 1", "1/3 2/3; 1/4 3/4", "1/3 2/3; 0 1"},
		{"1 0", "1/3 2/3; 1/4 3/4", "1 0; 1/4 3/4"},
		{"1 1", "0 1; 1 0", "0 1; 1 0"}, {"1 1", "0 1; 0 1", "1 0; 0 1"}, {"1 2", "0 1; 1 0", "0 1; 1/2 1/2"},
		{"1 2 3", "0 1/2 1/2; 1/2 0 1/2; 1/2 1/2 0", "0 1/2 1/2; 1/4 1/4 1/2; 1/6 1/3 1/2"},
		{"1 2 3 4 5 6", six, six},
	} {
		m, e := walk.Metropolis(list(t, c.w), matrix(t, c.q))
		if e != api.OK || rows(m) != c.want {
			t.Errorf("Metropolis(%s, %s): %s, error %d; %s is wanted", c.w, c.q, rows(m), e, c.want)
		}
	}
}

func TestMetropolisFaultsK2(t *testing.T) {
	seven := slices.Repeat([][]api.Frac{list(t, "1 0 0 0 0 0 0")}, 7)
	for _, c := range []struct {
		w, q string
		want api.Errno
	}{
		{"1 1", "", api.ErrCount}, {"", "", api.ErrCount}, {"1 1", "1 0", api.ErrCount}, {"1 1", "1 0; 1", api.ErrCount}, {"1 1", "1 0; 1/2 1/3", api.ErrSum}, {"1 1", "1 0; 2 -1", api.ErrSum},
		{"", "1", api.ErrCount}, {"1 1", "1", api.ErrCount}, {"1", "1 0; 0 1", api.ErrCount}, {"1 1 1", "1 0; 0 1", api.ErrCount},
		{"-1", "1", api.ErrSum}, {"1 -1/2", "1 0; 0 1", api.ErrSum}, {"-1/1000 1", "1 0; 0 1", api.ErrSum},
		// Of two faults the one that is named first.
		{"-1 1", "1 0", api.ErrCount}, {"1", "1 0; 1/2 1/3", api.ErrSum}, {"-1", "1 0; 0 1", api.ErrCount}, {"-1 1 1", "1 0; 0 1", api.ErrCount},
	} {
		m, e := walk.Metropolis(list(t, c.w), matrix(t, c.q))
		if e != c.want || len(m) != 0 {
			t.Errorf("Metropolis(%s, %s): %s, error %d; %d is wanted", c.w, c.q, rows(m), e, c.want)
		}
	}
	for _, q := range [][][]api.Frac{nil, {}, {nil}, seven} {
		if m, e := walk.Metropolis(make([]api.Frac, len(q)), q); e != api.ErrCount || len(m) != 0 {
			t.Errorf("Metropolis of %s: %s, error %d", rows(q), rows(m), e)
		}
	}
	if m, e := walk.Metropolis([]api.Frac{{Neg: true}, {Neg: true, Num: "\x01"}}, matrix(t, "1/2 1/2; 0 1")); e != api.OK || rows(m) != "1/2 1/2; 0 1" {
		t.Errorf("weights of 0 in another form: %s, error %d", rows(m), e)
	}
}

// wantedDraw is what the words of K3 say.
func wantedDraw(p []api.Frac, k, of int) int {
	sum := new(big.Rat)
	for i, f := range p {
		sum.Add(sum, rat(f))
		if new(big.Rat).Mul(sum, big.NewRat(int64(of), 1)).Cmp(big.NewRat(int64(k), 1)) > 0 {
			return i
		}
	}
	return -1
}

func TestDrawK3(t *testing.T) {
	d := die(23)
	for i := range 300 {
		p := drawnRow(&d, 1+i%9, 2+d.n(20))
		of := 1 + d.n(40)
		for k := range of {
			want := wantedDraw(p, k, of)
			if got, e := walk.Draw(p, k, of); e != api.OK || got != want {
				t.Fatalf("Draw(%s, %d, %d): %d, error %d; %d is wanted", texts(p), k, of, got, e, want)
			}
		}
	}
}

// Of so many dice, where that makes whole numbers, just as many draw each as is likely.
func TestDrawSharesK3(t *testing.T) {
	for _, c := range []struct {
		p    string
		of   int
		want string
	}{
		{"1/2 1/3 1/6", 6, "[0 0 0 1 1 2]"}, {"1", 3, "[0 0 0]"}, {"0 1", 2, "[1 1]"}, {"1 0", 2, "[0 0]"}, {"0 1/2 0 1/2 0", 4, "[1 1 3 3]"},
		{"1/4 1/4 1/4 1/4", 4, "[0 1 2 3]"}, {"1/2 1/2", 1, "[0]"}, {"1/2 1/2", 3, "[0 0 1]"}, {"1/3 1/3 1/3", 2, "[0 1]"}, {"1/100 99/100", 5, "[0 1 1 1 1]"},
	} {
		var got []int
		for k := range c.of {
			i, _ := walk.Draw(list(t, c.p), k, c.of)
			got = append(got, i)
		}
		if fmt.Sprint(got) != c.want {
			t.Errorf("%d dice of %s: %v; %s is wanted", c.of, c.p, got, c.want)
		}
	}
	d := die(29)
	for range 100 {
		weights, sum, times := []int{1}, 1, 1+d.n(3)
		for range d.n(6) {
			weights = append(weights, d.n(9))
			sum += weights[len(weights)-1]
		}
		var p []api.Frac
		for _, w := range weights {
			p = append(p, odd(&d, big.NewRat(int64(w), int64(sum))))
		}
		counts := make([]int, len(p))
		for k := range sum * times {
			i, _ := walk.Draw(p, k, sum*times)
			counts[i]++
		}
		for i, w := range weights {
			if counts[i] != w*times {
				t.Fatalf("%d dice of %s: %v", sum*times, texts(p), counts)
			}
		}
	}
}

func TestDrawEdgesK3(t *testing.T) {
	long := slices.Repeat(list(t, "1/1000"), 1000)
	tiny := frac.Make(false, "\x01", api.Nat("\x01"+string(make([]byte, 100))))
	for _, c := range []struct {
		p     []api.Frac
		k, of int
		want  int
	}{
		{list(t, "1"), 0, 1, 0}, {list(t, "1"), 999_999, 1_000_000, 0}, {list(t, "999999/1000000 1/1000000"), 999_998, 1_000_000, 0}, {list(t, "999999/1000000 1/1000000"), 999_999, 1_000_000, 1},
		{long, 0, 1, 0}, {long, 499, 1000, 499}, {long, 999_999, 1_000_000, 999}, {long, 500_000, 1_000_000, 500},
		{[]api.Frac{tiny, frac.Sub(frac.Of(1), tiny)}, 0, 1_000_000, 0}, {[]api.Frac{tiny, frac.Sub(frac.Of(1), tiny)}, 1, 1_000_000, 1},
		{[]api.Frac{frac.Sub(frac.Of(1), tiny), tiny}, 999_999, 1_000_000, 0},
		{[]api.Frac{{}, {Neg: true, Den: "\x07"}, {Num: "\x00\x02", Den: "\x00\x00\x04"}, {Num: "\x03", Den: "\x06"}}, 0, 2, 2},
	} {
		if got, e := walk.Draw(c.p, c.k, c.of); e != api.OK || got != c.want {
			t.Errorf("Draw of %d numbers, %d of %d: %d, error %d; %d is wanted", len(c.p), c.k, c.of, got, e, c.want)
		}
	}
}

func TestDrawFaultsK3(t *testing.T) {
	for _, p := range [][]api.Frac{nil, {}, {{}}, list(t, "1/2"), list(t, "1/2 1/3"), list(t, "1 1"), list(t, "3/2 -1/2"), list(t, "-1/2 3/2"), list(t, "1 -1 1"), list(t, "-1")} {
		for _, k := range []int{0, -1, 5, 9} { // a wrong die is no matter then
			for _, of := range []int{6, 0, -1} {
				if got, e := walk.Draw(p, k, of); got != 0 || e != api.ErrSum {
					t.Errorf("Draw(%s, %d, %d): %d, error %d; ErrSum is wanted", texts(p), k, of, got, e)
				}
			}
		}
	}
	for _, c := range [][2]int{{0, 0}, {0, -1}, {-1, 0}, {-1, 6}, {6, 6}, {7, 6}, {1, 1}, {0, 1_000_001}, {1_000_000, 1_000_000}, {math.MinInt, 6}, {math.MaxInt, 6}, {0, math.MaxInt}, {0, math.MinInt}, {-5, -4}} {
		if got, e := walk.Draw(list(t, "0 1/2 1/2"), c[0], c[1]); got != 0 || e != api.ErrPlace {
			t.Errorf("Draw of %d of %d: %d, error %d; ErrPlace is wanted", c[0], c[1], got, e)
		}
	}
}

// wantedStep is the assignment behind a die, by the sum over all ways.
func wantedStep(n api.Net, all []way, at []int, v, die, of int) []int {
	next := slices.Clone(at)
	sum := sumBut(all, v, at)
	if sum.Sign() == 0 {
		return next
	}
	var p []api.Frac
	for value := range n.Vars[v].Values {
		next[v] = value
		i := slices.IndexFunc(all, func(w way) bool { return slices.Equal(w.at, next) })
		p = append(p, lowest(new(big.Rat).Quo(all[i].p, sum)))
	}
	next[v] = wantedDraw(p, die, of)
	return next
}

// start is an assignment, drawn, that has all facts.
func start(d *die, n api.Net, facts []api.Fact) []int {
	var at []int
	for _, x := range n.Vars {
		at = append(at, d.n(len(x.Values)))
	}
	for _, f := range facts {
		at[f.Var] = f.Value
	}
	return at
}

func TestStepsK4(t *testing.T) {
	stayed, went := 0, 0
	each(t, 80, func(d *die, n api.Net, facts []api.Fact, all []way) {
		at := start(d, n, facts)
		of := 1 + d.n(50)
		var free, dice []int
		for v := range n.Vars {
			if !isOf(facts, v) {
				free = append(free, v)
			}
		}
		for range d.n(30) {
			dice = append(dice, d.n(of))
		}
		got, e := walk.Steps(n, facts, at, dice, of)
		if len(free) == 0 {
			if e != api.ErrState || len(got) != 0 {
				t.Fatalf("%s: %v, error %d; ErrState is wanted", told(n, facts), got, e)
			}
			return
		}
		if e != api.OK || len(got) != len(dice) {
			t.Fatalf("%s, %v, dice %v of %d: %v, error %d", told(n, facts), at, dice, of, got, e)
		}
		from := at
		for i, die := range dice {
			v := free[i%len(free)]
			want := wantedStep(n, all, from, v, die, of)
			if !slices.Equal(got[i], want) {
				t.Fatalf("%s, %v, dice %v of %d: %v; step %d is to be %v", told(n, facts), at, dice, of, got, i, want)
			}
			if slices.Equal(from, want) {
				stayed++
			} else {
				went++
			}
			from = want
		}
	})
	if stayed < 300 || went < 300 {
		t.Errorf("just %d stayed, %d went", stayed, went)
	}
}

// A step draws by Draw of what Gibbs says.
func TestStepsAreGibbsK4(t *testing.T) {
	each(t, 30, func(d *die, n api.Net, facts []api.Fact, all []way) {
		v := 0
		for isOf(facts, v) {
			v++
		}
		if v == len(n.Vars) {
			return
		}
		m, e := walk.Gibbs(n, facts, v)
		if e != api.OK {
			t.Fatalf("%s, %d: error %d", told(n, facts), v, e)
		}
		at := start(d, n, facts)
		from := slices.IndexFunc(all, func(w way) bool { return slices.Equal(w.at, at) })
		const of = 24
		for die := range of {
			got, e := walk.Steps(n, facts, at, []int{die}, of)
			to, _ := walk.Draw(m[from], die, of)
			if e != api.OK || len(got) != 1 || !slices.Equal(got[0], all[to].at) {
				t.Fatalf("%s, %v, die %d: %v, error %d; %v is wanted", told(n, facts), at, die, got, e, all[to].at)
			}
		}
	})
}

const wetText = `var cloudy { no yes }
var rain { no yes }
var wet { no yes }
cloudy : 1/2 1/2 ;
rain | cloudy { no : 4/5 1/5 ; yes : 0.2 0.8 ; }
wet | rain { no : 0.9 0.1 ; else : 1/10 9/10 ; }
`

func TestStepsEdgesK4(t *testing.T) {
	wet := []api.Fact{{Var: 2, Value: 1}}
	sure := "var a { x y } var b { x y } a : 1 0 ; b | a { x : 0 1 ; y : 1/2 1/2 ; }"
	for _, c := range []struct {
		text     string
		facts    []api.Fact
		at, dice []int
		of       int
		want     string
	}{
		{wetText, wet, []int{0, 0, 1}, nil, 0, "[]"}, // of is no matter, where there is no die
		{wetText, wet, []int{0, 0, 1}, []int{}, -7, "[]"},
		{wetText, wet, []int{0, 0, 1}, []int{9, 9, 9, 0}, 10, "[[1 0 1] [1 1 1] [1 1 1] [1 0 1]]"},
		{wetText, nil, []int{0, 0, 1}, []int{9, 9, 9, 0, 0, 0, 0}, 10, "[[1 0 1] [1 1 1] [1 1 1] [0 1 1] [0 0 1] [0 0 0] [0 0 0]]"},
		{wetText, []api.Fact{{Var: 2, Value: 1}, {Var: 0, Value: 1}}, []int{1, 0, 1}, []int{0, 1, 0}, 36, "[[1 0 1] [1 1 1] [1 0 1]]"},
		// What can't be: the other stays where no value of it may be, and is drawn where one may.
		{sure, nil, []int{1, 0}, []int{0, 0, 0, 0}, 1, "[[1 0] [1 0] [1 0] [1 0]]"},
		{sure, nil, []int{1, 1}, []int{0, 0, 0, 0}, 1, "[[0 1] [0 1] [0 1] [0 1]]"},
		{sure, nil, []int{0, 0}, []int{0, 0, 0}, 1, "[[0 0] [0 1] [0 1]]"},
		{"var a { x } a : 1 ;", nil, []int{0}, []int{0, 5}, 6, "[[0] [0]]"},
	} {
		got, e := walk.Steps(parsed(t, c.text), c.facts, c.at, c.dice, c.of)
		if e != api.OK || fmt.Sprint(got) != c.want {
			t.Errorf("%s%v, %v, dice %v of %d: %v, error %d; %s is wanted", c.text, c.facts, c.at, c.dice, c.of, got, e, c.want)
		}
	}
}

func TestStepsFaultsK4(t *testing.T) {
	for what, n := range spoilt(t) {
		for _, facts := range [][]api.Fact{nil, {{Var: 0}}, {{Var: 9}}, {{Var: 0, Value: 9}}} {
			for _, at := range [][]int{nil, {0, 0, 0}, {1, 9, 9}} {
				if l, e := walk.Steps(n, facts, at, []int{9}, 0); e != net.Check(n) || len(l) != 0 {
					t.Errorf("%s, %v, %v: %v, error %d; %d is wanted", what, facts, at, l, e, net.Check(n))
				}
			}
		}
	}
	n := parsed(t, wetText)
	one := []api.Fact{{Var: 1, Value: 1}}
	each := []api.Fact{{Var: 0}, {Var: 1}, {Var: 2}}
	for _, c := range []struct {
		facts    []api.Fact
		at, dice []int
		of       int
		want     api.Errno
	}{
		{one, []int{0, 1, 0}, []int{0, 5}, 6, api.OK}, {one, []int{0, 1, 0}, []int{999_999}, 1_000_000, api.OK},
		{[]api.Fact{{Var: 3}}, []int{0, 0, 0}, nil, 6, api.ErrVar}, {[]api.Fact{{Var: 0, Value: 2}}, []int{0, 0, 0}, nil, 6, api.ErrValue}, {[]api.Fact{{Var: 0}, {Var: 0}}, []int{0, 0, 0}, nil, 6, api.ErrDouble},
		{one, nil, nil, 6, api.ErrCount}, {one, []int{0, 1}, nil, 6, api.ErrCount}, {one, []int{0, 1, 0, 0}, nil, 6, api.ErrCount},
		{one, []int{0, 1, 2}, nil, 6, api.ErrValue}, {one, []int{-1, 1, 0}, nil, 6, api.ErrValue}, {one, []int{0, math.MaxInt, 0}, nil, 6, api.ErrValue}, {one, []int{math.MinInt, 1, 0}, nil, 6, api.ErrValue},
		{one, []int{0, 0, 0}, nil, 6, api.ErrState}, {one, []int{1, 0, 1}, []int{0}, 6, api.ErrState}, {each, []int{0, 0, 0}, nil, 6, api.ErrState}, {each, []int{0, 0, 1}, []int{0}, 6, api.ErrState},
		{one, []int{0, 1, 0}, []int{6}, 6, api.ErrPlace}, {one, []int{0, 1, 0}, []int{0, 1, -1}, 6, api.ErrPlace}, {one, []int{0, 1, 0}, []int{0}, 0, api.ErrPlace}, {one, []int{0, 1, 0}, []int{0}, -1, api.ErrPlace},
		{one, []int{0, 1, 0}, []int{0}, 1_000_001, api.ErrPlace}, {one, []int{0, 1, 0}, []int{math.MaxInt}, math.MaxInt, api.ErrPlace}, {one, []int{0, 1, 0}, []int{math.MinInt}, 6, api.ErrPlace},
		// Of two faults the one that is named first.
		{[]api.Fact{{Var: 0, Value: 2}}, nil, nil, 6, api.ErrValue}, {[]api.Fact{{Var: 3}}, []int{9}, []int{9}, 0, api.ErrVar}, {one, []int{9, 9}, []int{9}, 6, api.ErrCount},
		{one, []int{9, 0, 0}, nil, 6, api.ErrValue}, {each, []int{0, 0, 2}, nil, 6, api.ErrValue}, {one, []int{0, 0, 0}, []int{6}, 6, api.ErrState}, {each, []int{0, 0, 0}, []int{6}, 6, api.ErrState},
	} {
		l, e := walk.Steps(n, c.facts, c.at, c.dice, c.of)
		if e != c.want || e != api.OK && len(l) != 0 {
			t.Errorf("Steps(%v, %v, %v, %d): %v, error %d; %d is wanted", c.facts, c.at, c.dice, c.of, l, e, c.want)
		}
	}
}

// A long walk, in the greatest net, and one that comes by the same places again and again.
func TestLongWalkK4(t *testing.T) {
	d := die(31)
	parents := make([][]int, api.MaxVars)
	for v := range api.MaxVars - 1 {
		parents[v+1] = []int{v}
	}
	n := netOf(&d, slices.Repeat([]int{api.MaxSize}, api.MaxVars), parents, 9)
	dice := make([]int, 3000)
	for i := range dice {
		dice[i] = d.n(1_000_000)
	}
	l, e := walk.Steps(n, nil, make([]int, api.MaxVars), dice, 1_000_000)
	if e != api.OK || len(l) != len(dice) {
		t.Fatalf("%d steps, error %d", len(l), e)
	}
	for i := range len(l) - 1 {
		if !sameBut((i+1)%api.MaxVars, l[i], l[i+1]) {
			t.Fatalf("step %d: from %v to %v", i+1, l[i], l[i+1])
		}
	}
	// All dice in turn, each twice: a coin is drawn as often as it is likely, all along.
	coin := parsed(t, "var a { x y } a : 1/4 3/4 ;")
	var turns []int
	for i := range 200_000 {
		turns = append(turns, i%100)
	}
	l, e = walk.Steps(coin, nil, []int{0}, turns, 100)
	count := 0
	for _, at := range l {
		count += at[0]
	}
	if e != api.OK || len(l) != len(turns) || count != 150_000 {
		t.Errorf("%d of %d, error %d", count, len(l), e)
	}
}

func TestExample(t *testing.T) {
	half := list(t, "1/2 1/2")
	if m, e := walk.Metropolis(list(t, "1 3"), [][]api.Frac{half, half}); e != api.OK || rows(m) != "1/2 1/2; 1/6 5/6" {
		t.Errorf("Metropolis: %s, error %d", rows(m), e)
	}
	for k, want := range []int{0, 0, 0, 1, 1, 2} {
		if got, e := walk.Draw(list(t, "1/2 1/3 1/6"), k, 6); e != api.OK || got != want {
			t.Errorf("Draw of %d: %d, error %d", k, got, e)
		}
	}
}

func copied(n api.Net) api.Net {
	var m api.Net
	for v, x := range n.Vars {
		m.Vars = append(m.Vars, api.Var{Name: x.Name, Values: slices.Clone(x.Values)})
		m.Parents, m.Rows = append(m.Parents, slices.Clone(n.Parents[v])), append(m.Rows, slices.Clone(n.Rows[v]))
	}
	return m
}

// spoil writes into each row its own number: does one show another's?
func spoil(m [][]api.Frac) bool {
	for k, row := range m {
		_ = append(row, frac.Of(999))
		for i := range row {
			row[i] = frac.Of(k)
		}
	}
	for k, row := range m {
		if slices.ContainsFunc(row, func(f api.Frac) bool { return f != frac.Of(k) }) {
			return false
		}
	}
	return true
}

// P2: nothing that is handed in is written into, and what comes out is the caller's.
func TestFreshP2(t *testing.T) {
	each(t, 24, func(d *die, n api.Net, facts []api.Fact, _ []way) {
		before := copied(n)
		v, at := d.n(len(n.Vars)), start(d, n, facts)
		roomy, place, dice := append(make([]api.Fact, 0, 20), facts...), append(make([]int, 0, 20), at...), append(make([]int, 0, 20), 0, 1, 2, 3, 4, 5)
		ask := func() ([][]api.Frac, [][]int) {
			m, _ := walk.Gibbs(n, roomy, v)
			l, _ := walk.Steps(n, roomy, place, dice, 6)
			return m, l
		}
		m, l := ask()
		text := fmt.Sprint(m, l)
		if !spoil(m) {
			t.Fatalf("%s: rows of one answer share memory", told(n, facts))
		}
		for k, x := range l {
			_ = append(x, 99)
			for i := range x {
				x[i] = 100 + k
			}
		}
		for k, x := range l {
			if x[0] != 100+k || x[len(x)-1] != 100+k {
				t.Fatalf("%s: assignments of one answer share memory", told(n, facts))
			}
		}
		if m, l = ask(); fmt.Sprint(m, l) != text || !reflect.DeepEqual(n, before) || !slices.Equal(roomy, facts) || !slices.Equal(place, at) {
			t.Fatalf("%s: what came out was not the caller's", told(n, facts))
		}
		if fmt.Sprint(dice[:20]) != fmt.Sprint(append([]int{0, 1, 2, 3, 4, 5}, make([]int, 14)...)) || slices.ContainsFunc(place[:20][len(place):], func(i int) bool { return i != 0 }) {
			t.Fatalf("%s: written behind the lists", told(n, facts))
		}
	})
	eachProposal(60, func(w []api.Frac, q [][]api.Frac) {
		before := fmt.Sprint(w, q)
		m, _ := walk.Metropolis(w, q)
		text := fmt.Sprint(m)
		if !spoil(m) {
			t.Fatalf("%s: rows of one answer share memory", before)
		}
		walk.Draw(q[0], 0, 1)
		if m, _ = walk.Metropolis(w, q); fmt.Sprint(m) != text || fmt.Sprint(w, q) != before {
			t.Fatalf("%s: what came out was not the caller's", before)
		}
	})
}

// Calls at the same time do not matter to each other.
func TestAtTheSameTime(t *testing.T) {
	d := die(41)
	n := drawn(&d, 6)
	ask := func() string {
		m, e := walk.Gibbs(n, nil, 3)
		w, f := walk.Metropolis(n.Rows[0], slices.Repeat([][]api.Frac{n.Rows[0]}, len(n.Rows[0])))
		return fmt.Sprint(m, e, w, f)
	}
	want := ask()
	got := make([]string, 16)
	var working sync.WaitGroup
	for i := range got {
		working.Add(1)
		go func() {
			defer working.Done()
			got[i] = ask()
		}()
	}
	working.Wait()
	for _, text := range got {
		if text != want {
			t.Fatalf("%s; %s is wanted", text, want)
		}
	}
}
