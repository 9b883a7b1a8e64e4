package mean_test

import (
	"fmt"
	"math"
	"math/big"
	"slices"
	"strings"
	"testing"

	"augur/api"
	"augur/infer"
	"augur/mean"
	"augur/net"
	"augur/script"
)

// readNet is what is read of a net's text that is right.
func readNet(t *testing.T, text string) api.Net {
	t.Helper()
	n, e := net.Parse(text)
	if e != api.OK {
		t.Fatalf("%q: error %d", text, e)
	}
	return n
}

// becomes fails unless the program of a net is that text (which is written as Print writes).
func becomes(t *testing.T, n api.Net, facts []api.Fact, q int, want string) {
	t.Helper()
	p, e := mean.OfNet(n, facts, q)
	text, f := script.Print(p)
	if want = strings.Join(strings.Fields(want), " "); e != api.OK || f != api.OK || text != want {
		t.Errorf("%d %d %s\nnot %s", e, f, text, want)
	}
}

func TestProgramM5(t *testing.T) {
	rain := readNet(t, "var cloudy { no yes } var rain { no yes } var wet { no yes } cloudy : 1/2 1/2 ; rain | cloudy { no : 4/5 1/5 ; yes : 0.2 0.8 ; } wet | rain { no : 0.9 0.1 ; else : 1/10 9/10 ; }")
	steps := `let x0 ~ pick { 0 : 1 / 2 , 1 : 1 / 2 } ;
		let x1 = 0 ; if x0 == 0 { x1 ~ pick { 0 : 4 / 5 , 1 : 1 / 5 } ; } else { x1 ~ pick { 0 : 1 / 5 , 1 : 4 / 5 } ; }
		let x2 = 0 ; if x1 == 0 { x2 ~ pick { 0 : 9 / 10 , 1 : 1 / 10 } ; } else { x2 ~ pick { 0 : 1 / 10 , 1 : 9 / 10 } ; } `
	becomes(t, rain, nil, 1, steps+"return x1 ;")
	becomes(t, rain, []api.Fact{{Var: 2, Value: 1}}, 0, steps+"observe x2 == 1 ; return x0 ;")
	becomes(t, rain, []api.Fact{{Var: 2, Value: 0}, {Var: 0, Value: 1}}, 2, steps+"observe x2 == 0 ; observe x0 == 1 ; return x2 ;")
	// parents that stand behind; of three and of one values
	back := readNet(t, "var a { x y } var b { x y z } var c { x } a | b c { x x : 1 0 ; y x : 1/4 3/4 ; z x : 1/8 7/8 ; } b : 1/3 1/3 1/3 ; c : 1 ;")
	becomes(t, back, nil, 0, `let x1 ~ pick { 0 : 1 / 3 , 1 : 1 / 3 , 2 : 1 / 3 } ; let x2 ~ pick { 0 : 1 } ;
		let x0 = 0 ; if x1 == 0 { x0 ~ pick { 0 : 1 , 1 : 0 } ; } else { if x1 == 1 { x0 ~ pick { 0 : 1 / 4 , 1 : 3 / 4 } ; } else { x0 ~ pick { 0 : 1 / 8 , 1 : 7 / 8 } ; } }
		return x0 ;`)
	// the first parent is asked first, and the second one within
	two := readNet(t, "var a { x y } var b { x y z } var c { x y } a : 1 0 ; b : 0 0 1 ; c | a b { x x : 0 1 ; x y : 1/2 1/2 ; x z : 1/3 2/3 ; y x : 1/4 3/4 ; y y : 1/5 4/5 ; y z : 1/6 5/6 ; }")
	becomes(t, two, []api.Fact{{Var: 1, Value: 2}}, 2, `let x0 ~ pick { 0 : 1 , 1 : 0 } ; let x1 ~ pick { 0 : 0 , 1 : 0 , 2 : 1 } ; let x2 = 0 ;
		if x0 == 0 {
			if x1 == 0 { x2 ~ pick { 0 : 0 , 1 : 1 } ; } else { if x1 == 1 { x2 ~ pick { 0 : 1 / 2 , 1 : 1 / 2 } ; } else { x2 ~ pick { 0 : 1 / 3 , 1 : 2 / 3 } ; } }
		} else {
			if x1 == 0 { x2 ~ pick { 0 : 1 / 4 , 1 : 3 / 4 } ; } else { if x1 == 1 { x2 ~ pick { 0 : 1 / 5 , 1 : 4 / 5 } ; } else { x2 ~ pick { 0 : 1 / 6 , 1 : 5 / 6 } ; } }
		}
		observe x1 == 2 ; return x2 ;`)
	// a parent of one value is not asked
	lone := readNet(t, "var a { x } var b { x y } a : 1 ; b | a { x : 1/2 1/2 ; }")
	becomes(t, lone, nil, 1, "let x0 ~ pick { 0 : 1 } ; let x1 = 0 ; x1 ~ pick { 0 : 1 / 2 , 1 : 1 / 2 } ; return x1 ;")
}

// netOf is a net of these sizes and parents, its numbers in any form.
func netOf(d *die, sizes []int, parents [][]int) api.Net {
	n := api.Net{Parents: parents}
	for v, size := range sizes {
		n.Vars = append(n.Vars, api.Var{Name: fmt.Sprint("n", v), Values: slices.Clone([]string{"a", "b", "c", "d"}[:size])})
		rows := 1
		for _, u := range parents[v] {
			rows *= sizes[u]
		}
		var l []api.Frac
		for range rows {
			l = append(l, drawnRow(d, size)...)
		}
		n.Rows = append(n.Rows, l)
	}
	return n
}

func drawnRow(d *die, size int) []api.Frac {
	weights := make([]int64, size)
	sum := int64(0)
	for i := range weights {
		weights[i] = int64(d.n(5))
		sum += weights[i]
	}
	if sum == 0 {
		weights[d.n(size)], sum = 1, 1
	}
	var row []api.Frac
	for _, w := range weights {
		row = append(row, odd(d, big.NewRat(w, sum)))
	}
	return row
}

// drawnNet has parents ahead of their children or behind them.
func drawnNet(d *die, count int) api.Net {
	var sizes, order []int
	parents := make([][]int, count)
	for v := range count {
		sizes = append(sizes, 1+d.n(3)+d.n(5)/4)
		order = slices.Insert(order, d.n(len(order)+1), v)
	}
	for i, v := range order {
		for _, u := range order[:i] {
			if d.n(2) == 0 {
				parents[v] = append(parents[v], u)
			}
		}
		slices.Sort(parents[v])
	}
	return netOf(d, sizes, parents)
}

func toldNet(n api.Net) string {
	s := fmt.Sprint(n.Vars, n.Parents)
	for _, l := range n.Rows {
		for _, f := range l {
			s += " " + toldFrac(f)
		}
	}
	return s
}

// TestPosteriorM5: what the program of a net means is what is likely in the net.
func TestPosteriorM5(t *testing.T) {
	d := die(9)
	seen, noughts := map[api.Errno]int{}, 0
	for range 800 {
		n := drawnNet(&d, 1+d.n(4))
		q := d.n(len(n.Vars))
		var facts []api.Fact
		for v, x := range n.Vars {
			if v != q && d.n(3) == 0 {
				facts = slices.Insert(facts, d.n(len(facts)+1), api.Fact{Var: v, Value: d.n(len(x.Values))})
			}
		}
		before := toldNet(n) + fmt.Sprint(facts)
		p, e := mean.OfNet(n, facts, q)
		if seen[e]++; e != api.OK {
			if toldProg(p) != "" {
				t.Fatal("something beside an error")
			}
			continue
		}
		a, _ := mean.Run(p)
		l, e := mean.After(a)
		want, f := infer.Posterior(n, []int{q}, facts)
		if e != f {
			t.Fatal(before, e, f)
		}
		var points []api.Point
		for v, c := range want.Cells {
			if rat(c).Sign() > 0 {
				points = append(points, api.Point{Value: v, P: c})
			}
		}
		if f == api.ErrZero {
			noughts++
		}
		if toldPoints(l) != toldPoints(points) {
			t.Fatalf("%s: %s, not %s", before, toldPoints(l), toldPoints(points))
		}
		again, _ := mean.OfNet(n, facts, q)
		spoil(again.Body)
		third, _ := mean.OfNet(n, facts, q)
		if toldProg(p) != toldProg(third) || toldNet(n)+fmt.Sprint(facts) != before {
			t.Fatal("P2: something is shared or changed")
		}
	}
	if seen[api.OK] < 200 || seen[api.ErrMany] < 50 || noughts < 20 {
		t.Error("few of some kind:", seen, noughts)
	}
}

func spoil(l []api.Stmt) {
	for i, s := range l {
		spoil(s.Body)
		spoil(s.Else)
		for k := range s.Draw.Values {
			s.Draw.Values[k], s.Draw.Weights[k] = 55, api.Frac{Neg: true}
		}
		l[i] = api.Stmt{}
	}
}

// TestRowsP2: no two lists of a program share memory, not even behind their ends.
func TestRowsP2(t *testing.T) {
	d := die(2)
	n := netOf(&d, []int{2, 2, 2}, [][]int{nil, {0}, {0}})
	p, _ := mean.OfNet(n, nil, 2)
	want := toldProg(p)
	var grow func(l []api.Stmt)
	grow = func(l []api.Stmt) {
		for _, s := range l {
			grow(s.Body)
			grow(s.Else)
			_ = append(s.Draw.Values, 55)
			_ = append(s.Draw.Weights, api.Frac{Neg: true})
			_ = append(s.Body, api.Stmt{Kind: 99})
			_ = append(s.Else, api.Stmt{Kind: 99})
			_ = append(s.Expr.Args, api.Expr{Op: 99})
		}
	}
	if grow(p.Body); toldProg(p) != want {
		t.Error("lists share memory")
	}
}

func TestFaultsM5(t *testing.T) {
	n := readNet(t, "var a { x y } var b { x y z } a : 1/2 1/2 ; b | a { x : 1 0 0 ; y : 0 1 0 ; }")
	asks := func(what string, want api.Errno, n api.Net, facts []api.Fact, q int) {
		t.Helper()
		if p, e := mean.OfNet(n, facts, q); e != want || len(p.Defs) > 0 || len(p.Body) > 0 {
			t.Errorf("%s: %d %v, not %d", what, e, p, want)
		}
	}
	for _, q := range []int{-1, 2, 8, math.MinInt, math.MaxInt} {
		asks("no variable", api.ErrVar, n, nil, q)
		asks("facts ahead of the variable", api.ErrValue, n, []api.Fact{{Var: 0, Value: 2}}, q)
	}
	asks("no such variable", api.ErrVar, n, []api.Fact{{Var: 2}}, 0)
	asks("no such variable", api.ErrVar, n, []api.Fact{{Var: -1}}, 0)
	asks("no such value", api.ErrValue, n, []api.Fact{{Var: 1, Value: 3}}, 0)
	asks("no such value", api.ErrValue, n, []api.Fact{{Var: 1, Value: -1}}, 0)
	asks("twice", api.ErrDouble, n, []api.Fact{{Var: 1, Value: 1}, {Var: 1, Value: 1}}, 0)
	asks("the first fault", api.ErrValue, n, []api.Fact{{Var: 0, Value: 5}, {Var: 9}}, 0)
	asks("no net", api.ErrVar, api.Net{}, nil, 0)
	asks("no rows", api.ErrCount, api.Net{Vars: n.Vars, Parents: n.Parents}, nil, 7)
	spoilt := api.Net{Vars: n.Vars, Parents: n.Parents, Rows: [][]api.Frac{n.Rows[0], slices.Clone(n.Rows[1])}}
	spoilt.Rows[1][0] = over(1, 2)
	asks("a row that is not 1", api.ErrSum, spoilt, []api.Fact{{Var: 7}}, 7)
	asks("a cycle", api.ErrCycle, api.Net{Vars: n.Vars, Parents: [][]int{{1}, {0}}, Rows: n.Rows}, nil, 0)
	d := die(1)
	asks("too many ways", api.ErrMany, netOf(&d, []int{4, 4, 4}, [][]int{nil, {0}, {0}}), nil, 0)
	asks("a text that is too long", api.ErrLimit, netOf(&d, []int{4, 4, 4, 4, 4, 1}, [][]int{nil, nil, nil, nil, nil, {0, 1, 2, 3, 4}}), nil, 0)
	asks("a text that is too long and too deep", api.ErrLimit, netOf(&d, []int{4, 4, 4, 4, 4, 4, 1}, [][]int{nil, nil, nil, nil, nil, nil, {0, 1, 2, 3, 4, 5}}), nil, 0)
	if p, e := mean.OfNet(netOf(&d, []int{4, 4, 4, 4, 1}, [][]int{nil, nil, nil, nil, {0, 1, 2, 3}}), nil, 4); e != api.OK || script.Check(p) != api.OK {
		t.Error("four parents:", e)
	}
	for digits, want := range map[int]api.Errno{400: api.OK, 401: api.ErrLimit} {
		least, _ := new(big.Rat).SetString("1/1" + strings.Repeat("0", digits-1))
		n.Rows[0] = []api.Frac{lowest(least), lowest(new(big.Rat).Sub(big.NewRat(1, 1), least))}
		if _, e := mean.OfNet(n, nil, 0); e != want {
			t.Error(digits, "digits:", e)
		}
	}
}
