package walk_test

import (
	"fmt"
	"math/big"
	"slices"
	"strings"
	"testing"

	"augur/api"
	"augur/frac"
	"augur/net"
)

// die gives numbers that look drawn, the same each time.
type die uint64

func (d *die) n(most int) int {
	*d = *d*6364136223846793005 + 1442695040888963407
	return int(uint64(*d>>33) % uint64(most))
}

func rat(f api.Frac) *big.Rat {
	num, den := new(big.Int).SetBytes([]byte(f.Num)), new(big.Int).SetBytes([]byte(f.Den))
	if den.Sign() == 0 {
		return new(big.Rat)
	}
	if f.Neg {
		num.Neg(num)
	}
	return new(big.Rat).SetFrac(num, den)
}

// lowest is what of a number must come out (P4).
func lowest(r *big.Rat) api.Frac {
	return api.Frac{Neg: r.Sign() < 0, Num: api.Nat(r.Num().Bytes()), Den: api.Nat(r.Denom().Bytes())}
}

// odd is a number in any form.
func odd(d *die, r *big.Rat) api.Frac {
	if r.Sign() == 0 {
		return []api.Frac{{}, {Neg: true}, {Neg: true, Den: "\x05"}, {Num: "\x03", Den: "\x00"}, {Num: "\x00\x00", Den: "\x01"}}[d.n(5)]
	}
	by := big.NewInt(int64(1 + d.n(6)))
	ahead := strings.Repeat("\x00", d.n(3))
	return api.Frac{Num: api.Nat(ahead + string(new(big.Int).Mul(r.Num(), by).Bytes())), Den: api.Nat(string(new(big.Int).Mul(r.Denom(), by).Bytes()))}
}

// drawnRow has numbers of which those of a small most are often alike, or 0.
func drawnRow(d *die, size, most int) []api.Frac {
	weights := make([]int64, size)
	sum := int64(0)
	for i := range weights {
		weights[i] = int64(d.n(most))
		sum += weights[i]
	}
	if sum == 0 {
		weights[d.n(size)], sum = 1, 1
	}
	var row []api.Frac
	for _, w := range weights {
		row = append(row, odd(d, big.NewRat(w, sum)))
	}
	return row
}

// netOf is a net of these sizes and parents.
func netOf(d *die, sizes []int, parents [][]int, most int) api.Net {
	n := api.Net{Parents: parents}
	for v, size := range sizes {
		n.Vars = append(n.Vars, api.Var{Name: fmt.Sprint("n", v), Values: slices.Clone([]string{"no", "yes", "so", "else_"}[:size])})
		rows := 1
		for _, u := range parents[v] {
			rows *= sizes[u]
		}
		var l []api.Frac
		for range rows {
			l = append(l, drawnRow(d, size, most)...)
		}
		n.Rows = append(n.Rows, l)
	}
	return n
}

// loose is a net of these sizes in which nothing hangs on anything.
func loose(sizes ...int) api.Net {
	d := die(1)
	return netOf(&d, sizes, make([][]int, len(sizes)), 5)
}

// drawn is a net of at most MaxWalk assignments, in which parents stand ahead of their children or behind them.
func drawn(d *die, count int) api.Net {
	var sizes, order []int
	parents, whole := make([][]int, count), 1
	for v := range count {
		size := min(1+d.n(4), api.MaxWalk/whole)
		whole *= size
		sizes = append(sizes, size)
		order = slices.Insert(order, d.n(len(order)+1), v)
	}
	for i, v := range order {
		for _, u := range order[:i] {
			if d.n(2) == 0 {
				parents[v] = append(parents[v], u)
			}
		}
		slices.Sort(parents[v])
	}
	return netOf(d, sizes, parents, 2+d.n(8))
}

// way is an assignment of all variables, and how likely it is.
type way struct {
	at []int
	p  *big.Rat
}

// ways are all of them, in order, worked out from the net's numbers alone.
func ways(n api.Net) []way {
	l := []way{{nil, nil}}
	for _, x := range n.Vars {
		var longer []way
		for _, w := range l {
			for value := range x.Values {
				longer = append(longer, way{at: append(slices.Clone(w.at), value)})
			}
		}
		l = longer
	}
	for i, w := range l {
		l[i].p = big.NewRat(1, 1)
		for v, x := range n.Vars {
			row := 0
			for _, u := range n.Parents[v] {
				row = row*len(n.Vars[u].Values) + w.at[u]
			}
			l[i].p.Mul(l[i].p, rat(n.Rows[v][row*len(x.Values)+w.at[v]]))
		}
	}
	return l
}

func has(at []int, facts []api.Fact) bool {
	return !slices.ContainsFunc(facts, func(f api.Fact) bool { return at[f.Var] != f.Value })
}

// sameBut says whether two assignments have the same values but of v.
func sameBut(v int, a, b []int) bool {
	for u := range a {
		if u != v && a[u] != b[u] {
			return false
		}
	}
	return true
}

// sumBut is the sum of all ways that are the same as one but of v.
func sumBut(all []way, v int, at []int) *big.Rat {
	sum := new(big.Rat)
	for _, w := range all {
		if sameBut(v, w.at, at) {
			sum.Add(sum, w.p)
		}
	}
	return sum
}

// behind is how likely each way comes behind one, where v is drawn anew; false, where it stays.
func behind(all []way, facts []api.Fact, v, from int) ([]*big.Rat, bool) {
	row := make([]*big.Rat, len(all))
	at := all[from].at
	sum := sumBut(all, v, at)
	moves := has(at, facts) && sum.Sign() > 0
	for i, w := range all {
		row[i] = new(big.Rat)
		switch {
		case !moves && i == from:
			row[i].SetInt64(1)
		case moves && sameBut(v, w.at, at):
			row[i].Quo(w.p, sum)
		}
	}
	return row, moves
}

func drawnFacts(d *die, n api.Net) []api.Fact {
	var l []api.Fact
	for v, x := range n.Vars {
		if d.n(4) == 0 {
			l = slices.Insert(l, d.n(len(l)+1), api.Fact{Var: v, Value: d.n(len(x.Values))})
		}
	}
	return l
}

func isOf(facts []api.Fact, v int) bool {
	return slices.ContainsFunc(facts, func(f api.Fact) bool { return f.Var == v })
}

// each goes through drawn nets with facts, those without any among them.
func each(t *testing.T, times int, try func(d *die, n api.Net, facts []api.Fact, all []way)) {
	t.Helper()
	d := die(5)
	for i := range times {
		n := drawn(&d, 1+i%api.MaxVars)
		if e := net.Check(n); e != api.OK {
			t.Fatalf("a drawn net: error %d", e)
		}
		all := ways(n)
		for range 2 {
			try(&d, n, drawnFacts(&d, n), all)
		}
		try(&d, n, nil, all)
	}
}

func told(n api.Net, facts []api.Fact) string {
	text, _ := net.Print(n)
	return fmt.Sprintf("%s%v", text, facts)
}

func texts(l []api.Frac) string {
	s := ""
	for _, f := range l {
		s += " " + frac.Text(f)
	}
	return strings.TrimSpace(s)
}

func rows(m [][]api.Frac) string {
	var l []string
	for _, row := range m {
		l = append(l, texts(row))
	}
	return strings.Join(l, "; ")
}

func list(t *testing.T, text string) []api.Frac {
	t.Helper()
	var l []api.Frac
	for _, word := range strings.Fields(text) {
		f, e := frac.Parse(word)
		if e != api.OK {
			t.Fatalf("%s: error %d", word, e)
		}
		l = append(l, f)
	}
	return l
}

func matrix(t *testing.T, text string) [][]api.Frac {
	t.Helper()
	var m [][]api.Frac
	for _, line := range strings.Split(text, ";") {
		m = append(m, list(t, line))
	}
	return m
}

func parsed(t *testing.T, text string) api.Net {
	t.Helper()
	n, e := net.Parse(text)
	if e != api.OK {
		t.Fatalf("Parse: error %d", e)
	}
	return n
}

// spoilt are nets that may not be.
func spoilt(t *testing.T) map[string]api.Net {
	t.Helper()
	nets := map[string]api.Net{"nothing": {}}
	for what, spoil := range map[string]func(n *api.Net){
		"no rows":       func(n *api.Net) { n.Rows = nil },
		"few parents":   func(n *api.Net) { n.Parents = n.Parents[:2] },
		"cycle":         func(n *api.Net) { n.Parents[0] = []int{1} },
		"no such node":  func(n *api.Net) { n.Parents[1] = []int{7} },
		"no name":       func(n *api.Net) { n.Vars[1].Name = "Else" },
		"like names":    func(n *api.Net) { n.Vars[1].Name = n.Vars[0].Name },
		"no values":     func(n *api.Net) { n.Vars[2].Values = nil },
		"few numbers":   func(n *api.Net) { n.Rows[1] = n.Rows[1][:3] },
		"no sum of 1":   func(n *api.Net) { n.Rows[0][1] = frac.Of(1) },
		"numbers below": func(n *api.Net) { n.Rows[0][0], n.Rows[0][1] = frac.Of(2), frac.Of(-1) },
	} {
		n := parsed(t, "var a { x y } var b { x y } var c { x } a : 1/2 1/2 ; b | a { x : 1 0 ; y : 0 1 ; } c : 1 ;")
		spoil(&n)
		nets[what] = n
	}
	for what, n := range nets {
		if net.Check(n) == api.OK {
			t.Fatalf("%s: the net may be", what)
		}
	}
	return nets
}
