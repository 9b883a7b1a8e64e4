package infer_test

import (
	"fmt"
	"math"
	"math/big"
	"reflect"
	"slices"
	"strings"
	"testing"

	"augur/api"
	"augur/frac"
	"augur/graph"
	"augur/infer"
	"augur/net"
	"augur/table"
)

// die gives numbers that look drawn, the same each time.
type die uint64

func (d *die) n(most int) int {
	*d = *d*6364136223846793005 + 1442695040888963407
	return int(uint64(*d>>33) % uint64(most))
}

func rat(f api.Frac) *big.Rat {
	num, den := new(big.Int).SetBytes([]byte(f.Num)), new(big.Int).SetBytes([]byte(f.Den))
	if den.Sign() == 0 {
		return new(big.Rat)
	}
	if f.Neg {
		num.Neg(num)
	}
	return new(big.Rat).SetFrac(num, den)
}

// lowest is what of a number must come out (P4).
func lowest(r *big.Rat) api.Frac {
	return api.Frac{Neg: r.Sign() < 0, Num: api.Nat(r.Num().Bytes()), Den: api.Nat(r.Denom().Bytes())}
}

// odd is a number in any form.
func odd(d *die, r *big.Rat) api.Frac {
	if r.Sign() == 0 {
		return []api.Frac{{}, {Neg: true}, {Neg: true, Den: "\x05"}, {Num: "\x03", Den: "\x00"}, {Num: "\x00\x00", Den: "\x01"}}[d.n(5)]
	}
	by := big.NewInt(int64(1 + d.n(6)))
	ahead := strings.Repeat("\x00", d.n(3))
	return api.Frac{Num: api.Nat(ahead + string(new(big.Int).Mul(r.Num(), by).Bytes())), Den: api.Nat(string(new(big.Int).Mul(r.Denom(), by).Bytes()))}
}

// drawnRow has numbers of which those of a small most are often alike, or 0.
func drawnRow(d *die, size, most int) []api.Frac {
	weights := make([]int64, size)
	sum := int64(0)
	for i := range weights {
		weights[i] = int64(d.n(most))
		sum += weights[i]
	}
	if sum == 0 {
		i := d.n(size)
		weights[i], sum = 1, 1
	}
	var row []api.Frac
	for _, w := range weights {
		row = append(row, odd(d, big.NewRat(w, sum)))
	}
	return row
}

// netOf is a net of these sizes and parents.
func netOf(d *die, sizes []int, parents [][]int, most int) api.Net {
	n := api.Net{Parents: parents}
	for v, size := range sizes {
		n.Vars = append(n.Vars, api.Var{Name: fmt.Sprint("n", v), Values: slices.Clone([]string{"no", "yes", "so", "else_"}[:size])})
		rows := 1
		for _, u := range parents[v] {
			rows *= sizes[u]
		}
		var l []api.Frac
		for range rows {
			l = append(l, drawnRow(d, size, most)...)
		}
		n.Rows = append(n.Rows, l)
	}
	return n
}

// drawn is a net in which parents stand ahead of their children or behind them.
func drawn(d *die, count int) api.Net {
	var sizes, order []int
	parents := make([][]int, count)
	for v := range count {
		sizes = append(sizes, 1+d.n(3+v%2))
		order = slices.Insert(order, d.n(len(order)+1), v)
	}
	for i, v := range order {
		for _, u := range order[:i] {
			if d.n(2) == 0 && len(parents[v]) < 3 {
				parents[v] = append(parents[v], u)
			}
		}
		slices.Sort(parents[v])
	}
	return netOf(d, sizes, parents, 2+d.n(8))
}

func copied(n api.Net) api.Net {
	var m api.Net
	for _, x := range n.Vars {
		m.Vars = append(m.Vars, api.Var{Name: x.Name, Values: slices.Clone(x.Values)})
	}
	for _, l := range n.Parents {
		m.Parents = append(m.Parents, slices.Clone(l))
	}
	for _, l := range n.Rows {
		m.Rows = append(m.Rows, slices.Clone(l))
	}
	return m
}

// way is an assignment of all variables, and how likely it is.
type way struct {
	at []int
	p  *big.Rat
}

// ways are all of them, in order, worked out from the net's numbers alone.
func ways(n api.Net) []way {
	l := []way{{nil, nil}}
	for _, x := range n.Vars {
		var longer []way
		for _, w := range l {
			for value := range x.Values {
				longer = append(longer, way{at: append(slices.Clone(w.at), value)})
			}
		}
		l = longer
	}
	for i, w := range l {
		l[i].p = big.NewRat(1, 1)
		for v, x := range n.Vars {
			row := 0
			for _, u := range n.Parents[v] {
				row = row*len(n.Vars[u].Values) + w.at[u]
			}
			l[i].p.Mul(l[i].p, rat(n.Rows[v][row*len(x.Values)+w.at[v]]))
		}
	}
	return l
}

// having are the ways that have the facts.
func having(l []way, facts []api.Fact) []way {
	return slices.DeleteFunc(slices.Clone(l), func(w way) bool {
		return slices.ContainsFunc(facts, func(f api.Fact) bool { return w.at[f.Var] != f.Value })
	})
}

func sum(l []way) *big.Rat {
	s := new(big.Rat)
	for _, w := range l {
		s.Add(s, w.p)
	}
	return s
}

// drawnFacts are of some variables, in any order.
func drawnFacts(d *die, n api.Net) []api.Fact {
	var l []api.Fact
	for v, x := range n.Vars {
		if d.n(3) == 0 {
			l = slices.Insert(l, d.n(len(l)+1), api.Fact{Var: v, Value: d.n(len(x.Values))})
		}
	}
	return l
}

// each goes through drawn nets with facts, those without any among them.
func each(t *testing.T, times int, try func(d *die, n api.Net, facts []api.Fact, all []way)) {
	d := die(3)
	for i := range times {
		n := drawn(&d, 1+i%6)
		if e := net.Check(n); e != api.OK {
			t.Fatalf("a drawn net: error %d", e)
		}
		all := ways(n)
		for range 4 {
			try(&d, n, drawnFacts(&d, n), all)
		}
		try(&d, n, nil, all)
	}
}

func told(n api.Net, facts []api.Fact) string {
	text, _ := net.Print(n)
	return fmt.Sprintf("%s%v", text, facts)
}

// rainy is the net of the document's session.
func rainy(t *testing.T) api.Net {
	n, e := net.Parse(`var cloudy { no yes }
var rain { no yes }
var wet { no yes }
cloudy : 1/2 1/2 ;
rain | cloudy { no : 4/5 1/5 ; yes : 0.2 0.8 ; }
wet | rain { no : 0.9 0.1 ; else : 1/10 9/10 ; }
`)
	if e != api.OK {
		t.Fatalf("Parse: error %d", e)
	}
	return n
}

func texts(l []api.Frac) string {
	s := ""
	for _, f := range l {
		s += " " + frac.Text(f)
	}
	return strings.TrimSpace(s)
}

func TestSessionI2I3I4(t *testing.T) {
	n := rainy(t)
	wet := []api.Fact{{Var: 2, Value: 1}}
	if p, e := infer.Prob(n, wet); e != api.OK || frac.Text(p) != "1/2" {
		t.Errorf("Prob: %v, error %d", p, e)
	}
	if q, e := infer.Posterior(n, []int{1}, wet); e != api.OK || !slices.Equal(q.Vars, []int{1}) || texts(q.Cells) != "1/10 9/10" {
		t.Errorf("Posterior: %v, error %d", q, e)
	}
	if at, p, e := infer.Best(n, wet); e != api.OK || !slices.Equal(at, []int{1, 1, 1}) || frac.Text(p) != "9/25" {
		t.Errorf("Best: %v %v, error %d", at, p, e)
	}
}

func TestProbI2(t *testing.T) {
	noughts := 0
	each(t, 200, func(d *die, n api.Net, facts []api.Fact, all []way) {
		want := sum(having(all, facts))
		if want.Sign() == 0 {
			noughts++
		}
		if p, e := infer.Prob(n, facts); e != api.OK || p != lowest(want) {
			t.Fatalf("%s: %v, error %d; %s is wanted", told(n, facts), p, e, want)
		}
	})
	if noughts < 10 {
		t.Errorf("just %d facts of Prob 0 were tried", noughts)
	}
}

// All variables known: Prob is Joint; nothing known: 1.
func TestProbEdgesI2(t *testing.T) {
	each(t, 60, func(d *die, n api.Net, _ []api.Fact, all []way) {
		w := all[d.n(len(all))]
		var facts []api.Fact
		for v, value := range w.at {
			facts = slices.Insert(facts, d.n(len(facts)+1), api.Fact{Var: v, Value: value})
		}
		joint, _ := net.Joint(n, w.at)
		if p, e := infer.Prob(n, facts); e != api.OK || p != joint {
			t.Fatalf("%s: %v, error %d; %v is wanted", told(n, facts), p, e, joint)
		}
		if p, e := infer.Prob(n, []api.Fact{}); e != api.OK || p != frac.Of(1) {
			t.Fatalf("%s: %v, error %d; 1 is wanted", told(n, nil), p, e)
		}
	})
}

// drawnAsked are some variables, rising, of which there is no fact.
func drawnAsked(d *die, n api.Net, facts []api.Fact) []int {
	var q []int
	for v := range n.Vars {
		if d.n(2) == 0 && !slices.ContainsFunc(facts, func(f api.Fact) bool { return f.Var == v }) {
			q = append(q, v)
		}
	}
	return q
}

// wanted is the table of q by the ways that have the facts.
func wanted(n api.Net, q []int, l []way) []api.Frac {
	sizes := net.Sizes(n)
	count, _ := table.Count(sizes, q)
	sums := make([]*big.Rat, count)
	for k := range sums {
		sums[k] = new(big.Rat)
	}
	for _, w := range l {
		k := 0
		for _, v := range q {
			k = k*sizes[v] + w.at[v]
		}
		sums[k].Add(sums[k], w.p)
	}
	cells := make([]api.Frac, count)
	for k := range cells {
		cells[k] = lowest(sums[k].Quo(sums[k], sum(l)))
	}
	return cells
}

func TestPosteriorI3(t *testing.T) {
	noughts, whole := 0, 0
	each(t, 200, func(d *die, n api.Net, facts []api.Fact, all []way) {
		q := drawnAsked(d, n, facts)
		l := having(all, facts)
		got, e := infer.Posterior(n, q, facts)
		if sum(l).Sign() == 0 {
			noughts++
			if e != api.ErrZero || len(got.Vars)+len(got.Cells) != 0 {
				t.Fatalf("%s %v: %v, error %d; ErrZero is wanted", told(n, facts), q, got, e)
			}
			return
		}
		if len(q) == len(n.Vars) {
			whole++
		}
		if want := wanted(n, q, l); e != api.OK || !slices.Equal(got.Vars, q) || !slices.Equal(got.Cells, want) {
			t.Fatalf("%s %v: %v, error %d; %v is wanted", told(n, facts), q, got, e, want)
		}
	})
	if noughts < 10 || whole < 10 {
		t.Errorf("just %d facts of Prob 0 and %d questions for all variables were tried", noughts, whole)
	}
}

// never is a net of whose second variable the value 1 can't be.
func never() api.Net {
	one, nought := frac.Of(1), frac.Of(0)
	return api.Net{
		Vars:    []api.Var{{Name: "a", Values: []string{"x", "y"}}, {Name: "b", Values: []string{"x", "y"}}, {Name: "c", Values: []string{"x"}}},
		Parents: [][]int{nil, {0}, nil},
		Rows:    [][]api.Frac{{one, nought}, {one, nought, nought, one}, {one}},
	}
}

func TestPosteriorFaultsI3(t *testing.T) {
	n := never()
	for _, c := range []struct {
		q     []int
		facts []api.Fact
		want  api.Errno
	}{
		{nil, nil, api.OK}, {[]int{0, 1, 2}, nil, api.OK}, {[]int{2}, []api.Fact{{Var: 1, Value: 0}, {Var: 0, Value: 0}}, api.OK},
		{[]int{-1}, nil, api.ErrVar}, {[]int{3}, nil, api.ErrVar}, {[]int{0, 3}, nil, api.ErrVar}, {[]int{1, 0}, nil, api.ErrVar}, {[]int{1, 1}, nil, api.ErrVar},
		{[]int{math.MaxInt}, nil, api.ErrVar}, {[]int{math.MinInt}, nil, api.ErrVar}, {[]int{0, 1, 2, 3}, nil, api.ErrVar},
		{[]int{1}, []api.Fact{{Var: 1, Value: 0}}, api.ErrDouble}, {[]int{0, 1}, []api.Fact{{Var: 0, Value: 0}, {Var: 1, Value: 0}}, api.ErrDouble},
		{[]int{0, 1, 2}, []api.Fact{{Var: 2, Value: 0}}, api.ErrDouble},
		{[]int{0}, []api.Fact{{Var: 1, Value: 1}}, api.ErrZero}, {nil, []api.Fact{{Var: 1, Value: 1}}, api.ErrZero}, {[]int{2}, []api.Fact{{Var: 0, Value: 1}}, api.ErrZero},
		// Of two faults the one that is named first.
		{[]int{9}, []api.Fact{{Var: 9, Value: 0}}, api.ErrVar}, {[]int{9}, []api.Fact{{Var: 0, Value: 9}}, api.ErrValue},
		{[]int{9}, []api.Fact{{Var: 0, Value: 0}, {Var: 0, Value: 0}}, api.ErrDouble}, {[]int{0}, []api.Fact{{Var: 0, Value: 0}, {Var: 1, Value: 2}}, api.ErrValue},
		{[]int{1, 0}, []api.Fact{{Var: 1, Value: 0}}, api.ErrVar}, {[]int{1, 0}, []api.Fact{{Var: 1, Value: 1}}, api.ErrVar}, {[]int{1}, []api.Fact{{Var: 1, Value: 1}}, api.ErrDouble},
		{[]int{0}, []api.Fact{{Var: 1, Value: 1}, {Var: 0, Value: 0}}, api.ErrDouble},
	} {
		got, e := infer.Posterior(n, c.q, c.facts)
		if e != c.want || e != api.OK && len(got.Vars)+len(got.Cells) != 0 {
			t.Errorf("Posterior(%v, %v): %v, error %d; %d is wanted", c.q, c.facts, got, e, c.want)
		}
	}
	got, e := infer.Posterior(n, nil, nil)
	if e != api.OK || len(got.Vars) != 0 || !slices.Equal(got.Cells, []api.Frac{frac.Of(1)}) {
		t.Errorf("Posterior of nothing: %v, error %d", got, e)
	}
}

func TestBestI4(t *testing.T) {
	noughts, ties := 0, 0
	each(t, 250, func(d *die, n api.Net, facts []api.Fact, all []way) {
		l := having(all, facts)
		best := l[0]
		for _, w := range l {
			if w.p.Cmp(best.p) > 0 {
				best = w
			}
		}
		at, p, e := infer.Best(n, facts)
		if best.p.Sign() == 0 {
			noughts++
			if e != api.ErrZero || len(at) != 0 || rat(p).Sign() != 0 {
				t.Fatalf("%s: %v %v, error %d; ErrZero is wanted", told(n, facts), at, p, e)
			}
			return
		}
		for _, w := range l {
			if w.p.Cmp(best.p) == 0 && !slices.Equal(w.at, best.at) {
				ties++
			}
		}
		if e != api.OK || !slices.Equal(at, best.at) || p != lowest(best.p) {
			t.Fatalf("%s: %v %v, error %d; %v %s is wanted", told(n, facts), at, p, e, best.at, best.p)
		}
	})
	if noughts < 10 || ties < 100 {
		t.Errorf("just %d facts of Prob 0 and %d likeliest ones beside the first were tried", noughts, ties)
	}
}

// Where the first variable's value that is best by itself, or the sum over the others, would mislead.
func TestBestEdgesI4(t *testing.T) {
	read := func(text string) api.Net {
		n, e := net.Parse(text)
		if e != api.OK {
			t.Fatalf("Parse: error %d", e)
		}
		return n
	}
	for _, c := range []struct {
		text  string
		facts []api.Fact
		want  []int
		p     string
	}{
		{"var a { x y } var b { x y z } a : 0.6 0.4 ; b | a { x : 1/3 1/3 1/3 ; y : 0 1 0 ; }", nil, []int{1, 1}, "2/5"},
		{"var a { x y } var b { x y } a : 1/2 1/2 ; b | a { x : 0 1 ; y : 1 0 ; }", nil, []int{0, 1}, "1/2"},
		{"var a { x y } var b { x y } b : 1/2 1/2 ; a | b { x : 0 1 ; y : 1 0 ; }", nil, []int{0, 1}, "1/2"},
		{"var a { x y } var b { x y } a : 1/2 1/2 ; b | a { x : 0 1 ; y : 1 0 ; }", []api.Fact{{Var: 1, Value: 0}}, []int{1, 0}, "1/2"},
		{"var a { x y z t } a : 1/4 1/4 1/4 1/4 ;", nil, []int{0}, "1/4"},
		{"var a { x y z t } a : 0 1/3 1/3 1/3 ;", nil, []int{1}, "1/3"},
		{"var a { x y z t } a : 0 1/3 1/3 1/3 ;", []api.Fact{{Var: 0, Value: 3}}, []int{3}, "1/3"},
		{"var a { x } a : 1 ;", nil, []int{0}, "1"},
	} {
		at, p, e := infer.Best(read(c.text), c.facts)
		if e != api.OK || !slices.Equal(at, c.want) || frac.Text(p) != c.p {
			t.Errorf("Best of %s with %v: %v %v, error %d; %v %s is wanted", c.text, c.facts, at, p, e, c.want, c.p)
		}
	}
}

// refused: do all three calls say this, and nothing beside it (P1)?
func refused(t *testing.T, what string, n api.Net, facts []api.Fact, want api.Errno) {
	t.Helper()
	if p, e := infer.Prob(n, facts); e != want || rat(p).Sign() != 0 || p.Neg {
		t.Errorf("Prob, %s: %v, error %d; %d is wanted", what, p, e, want)
	}
	for _, q := range [][]int{nil, {0}, {5, 3}, {-1}} {
		if got, e := infer.Posterior(n, q, facts); e != want || len(got.Vars)+len(got.Cells) != 0 {
			t.Errorf("Posterior of %v, %s: %v, error %d; %d is wanted", q, what, got, e, want)
		}
	}
	if at, p, e := infer.Best(n, facts); e != want || len(at) != 0 || rat(p).Sign() != 0 || p.Neg {
		t.Errorf("Best, %s: %v %v, error %d; %d is wanted", what, at, p, e, want)
	}
}

func TestFactsI1(t *testing.T) {
	n := never() // sizes 2, 2, 1
	for _, c := range []struct {
		facts []api.Fact
		want  api.Errno
	}{
		{[]api.Fact{{Var: -1}}, api.ErrVar}, {[]api.Fact{{Var: 3}}, api.ErrVar}, {[]api.Fact{{Var: math.MaxInt}}, api.ErrVar}, {[]api.Fact{{Var: math.MinInt}}, api.ErrVar},
		{[]api.Fact{{Var: 0, Value: -1}}, api.ErrValue}, {[]api.Fact{{Var: 0, Value: 2}}, api.ErrValue}, {[]api.Fact{{Var: 2, Value: 1}}, api.ErrValue},
		{[]api.Fact{{Var: 1, Value: math.MaxInt}}, api.ErrValue}, {[]api.Fact{{Var: 1, Value: math.MinInt}}, api.ErrValue},
		{[]api.Fact{{Var: 0}, {Var: 0}}, api.ErrDouble}, {[]api.Fact{{Var: 0}, {Var: 0, Value: 1}}, api.ErrDouble}, {[]api.Fact{{Var: 2}, {Var: 1}, {Var: 2}}, api.ErrDouble},
		// Of one fact the fault that is named first; of several facts the first one's.
		{[]api.Fact{{Var: 9, Value: 9}}, api.ErrVar}, {[]api.Fact{{Var: 0}, {Var: 0, Value: 2}}, api.ErrValue},
		{[]api.Fact{{Var: 0, Value: 2}, {Var: 9}}, api.ErrValue}, {[]api.Fact{{Var: 9}, {Var: 0, Value: 2}}, api.ErrVar},
		{[]api.Fact{{Var: 0}, {Var: 0}, {Var: 9}}, api.ErrDouble}, {[]api.Fact{{Var: 0}, {Var: 9}, {Var: 0}}, api.ErrVar},
		{[]api.Fact{{Var: 0}, {Var: 0}, {Var: 1, Value: 2}}, api.ErrDouble}, {[]api.Fact{{Var: 0}, {Var: 1, Value: 2}, {Var: 0}}, api.ErrValue},
		{[]api.Fact{{Var: 0, Value: 1}, {Var: 9}}, api.ErrVar}, {[]api.Fact{{Var: 1, Value: 1}, {Var: 2, Value: 1}}, api.ErrValue}, // also where the facts can't be
	} {
		refused(t, fmt.Sprint(c.facts), n, c.facts, c.want)
	}
}

// What net.Check says is said ahead of all that may be said of facts.
func TestNetFirstI1(t *testing.T) {
	spoil := map[string]func(n *api.Net){
		"nothing":       func(n *api.Net) { *n = api.Net{} },
		"no rows":       func(n *api.Net) { n.Rows = nil },
		"few parents":   func(n *api.Net) { n.Parents = n.Parents[:2] },
		"cycle":         func(n *api.Net) { n.Parents[0] = []int{1} },
		"no such node":  func(n *api.Net) { n.Parents[1] = []int{7} },
		"no name":       func(n *api.Net) { n.Vars[1].Name = "Else" },
		"like names":    func(n *api.Net) { n.Vars[1].Name = n.Vars[0].Name },
		"no values":     func(n *api.Net) { n.Vars[2].Values = nil },
		"like values":   func(n *api.Net) { n.Vars[0].Values[1] = n.Vars[0].Values[0] },
		"few numbers":   func(n *api.Net) { n.Rows[1] = n.Rows[1][:3] },
		"no sum of 1":   func(n *api.Net) { n.Rows[0][1] = frac.Of(1) },
		"numbers below": func(n *api.Net) { n.Rows[0][0], n.Rows[0][1] = frac.Of(2), frac.Of(-1) },
	}
	for what, f := range spoil {
		n := never()
		f(&n)
		want := net.Check(n)
		if want == api.OK {
			t.Fatalf("%s: the net may be", what)
		}
		for _, facts := range [][]api.Fact{nil, {{Var: 0}}, {{Var: 9}}, {{Var: 0, Value: 9}}, {{Var: 0}, {Var: 0}}, {{Var: 1, Value: 1}}} {
			refused(t, fmt.Sprint(what, facts), n, facts, want)
		}
	}
}

// The greatest nets: eight variables of four values, all in a row, or all wed.
func TestGreatest(t *testing.T) {
	d := die(11)
	sizes := slices.Repeat([]int{api.MaxSize}, api.MaxVars)
	row, fan := make([][]int, api.MaxVars), make([][]int, api.MaxVars)
	for v := range api.MaxVars - 1 {
		row[v+1], fan[v+1] = []int{v}, []int{0}
	}
	facts := []api.Fact{{Var: 7, Value: 3}, {Var: 4, Value: 0}}
	for _, parents := range [][][]int{row, fan} {
		n := netOf(&d, sizes, parents, 5)
		l := having(ways(n), facts)
		if p, e := infer.Prob(n, facts); e != api.OK || p != lowest(sum(l)) {
			t.Errorf("Prob: %v, error %d", p, e)
		}
		if got, e := infer.Posterior(n, []int{0, 6}, facts); e != api.OK || !slices.Equal(got.Cells, wanted(n, []int{0, 6}, l)) {
			t.Errorf("Posterior: %v, error %d", got, e)
		}
		at, p, e := infer.Best(n, facts)
		first := slices.MaxFunc(l, func(a, b way) int { return a.p.Cmp(b.p) })
		if e != api.OK || !slices.Equal(at, first.at) || p != lowest(first.p) {
			t.Errorf("Best: %v %v, error %d; %v is wanted", at, p, e, first)
		}
	}
	wed := netOf(&d, slices.Repeat([]int{3}, api.MaxVars), [][]int{{1, 2, 3, 4, 5, 6, 7}, {2, 3, 4, 5, 6, 7}, {3, 4, 5, 6, 7}, {4, 5, 6, 7}, {5, 6, 7}, {6, 7}, {7}, nil}, 4)
	if p, e := infer.Prob(wed, facts[1:]); e != api.OK || p != lowest(sum(having(ways(wed), facts[1:]))) {
		t.Errorf("Prob where all are wed: %v, error %d", p, e)
	}
}

// What is apart is independent.
func TestApartIsIndependent(t *testing.T) {
	tried := 0
	each(t, 120, func(d *die, n api.Net, facts []api.Fact, all []way) {
		var z []int
		for _, f := range facts {
			z = append(z, f.Var)
		}
		slices.Sort(z)
		x, y := d.n(len(n.Vars)), d.n(len(n.Vars))
		if x == y || slices.Contains(z, x) || slices.Contains(z, y) {
			return
		}
		if apart, e := graph.Apart(n.Parents, []int{x}, []int{y}, z); !apart || e != api.OK {
			return
		}
		alone, e := infer.Posterior(n, []int{x}, facts)
		for value := range n.Vars[y].Values {
			with, f := infer.Posterior(n, []int{x}, append(slices.Clone(facts), api.Fact{Var: y, Value: value}))
			if e == api.OK && f == api.OK {
				tried++
				if !slices.Equal(alone.Cells, with.Cells) {
					t.Fatalf("%s: %d and %d: %v and %v", told(n, facts), x, y, alone, with)
				}
			}
		}
	})
	if tried < 50 {
		t.Errorf("just %d were tried", tried)
	}
}

// Nothing that is handed in is written into; what comes out is the caller's.
func TestFreshP2(t *testing.T) {
	each(t, 60, func(d *die, n api.Net, facts []api.Fact, _ []way) {
		before := copied(n)
		q := drawnAsked(d, n, facts)
		// Room behind the lists, into which nothing is to be written.
		roomy := append(make([]api.Fact, 0, 20), facts...)
		asked := append(make([]int, 0, 20), q...)
		type outcome struct {
			p, b    api.Frac
			t       api.Table
			at      []int
			e, f, g api.Errno
		}
		ask := func() (o outcome) {
			o.p, o.e = infer.Prob(n, roomy)
			o.t, o.f = infer.Posterior(n, asked, roomy)
			o.at, o.b, o.g = infer.Best(n, roomy)
			return o
		}
		first := ask()
		text := fmt.Sprint(first)
		if !reflect.DeepEqual(n, before) || !slices.Equal(roomy, facts) || !slices.Equal(asked, q) {
			t.Fatalf("%s: written into", told(before, facts))
		}
		if slices.ContainsFunc(roomy[:cap(roomy)][len(roomy):], func(f api.Fact) bool { return f != api.Fact{} }) || slices.ContainsFunc(asked[:cap(asked)][len(asked):], func(v int) bool { return v != 0 }) {
			t.Fatalf("%s: written behind the lists", told(before, facts))
		}
		for i := range first.t.Vars {
			first.t.Vars[i] = 99
		}
		for i := range first.t.Cells {
			first.t.Cells[i] = frac.Of(99)
		}
		for i := range first.at {
			first.at[i] = 99
		}
		if again := fmt.Sprint(ask()); again != text || !slices.Equal(asked, q) {
			t.Fatalf("%s: %s, then %s", told(before, facts), text, again)
		}
	})
}
