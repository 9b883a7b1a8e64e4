package cause_test

import (
	"fmt"
	"math/big"
	"slices"
	"strings"
	"testing"

	"augur/api"
	"augur/frac"
	"augur/net"
)

// die gives numbers that look drawn, the same each time.
type die uint64

func (d *die) n(most int) int {
	*d = *d*6364136223846793005 + 1442695040888963407
	return int(uint64(*d>>33) % uint64(most))
}

func rat(f api.Frac) *big.Rat {
	num, den := new(big.Int).SetBytes([]byte(f.Num)), new(big.Int).SetBytes([]byte(f.Den))
	if den.Sign() == 0 {
		return new(big.Rat)
	}
	if f.Neg {
		num.Neg(num)
	}
	return new(big.Rat).SetFrac(num, den)
}

// lowest is what of a number must come out (P4).
func lowest(r *big.Rat) api.Frac {
	return api.Frac{Neg: r.Sign() < 0, Num: api.Nat(r.Num().Bytes()), Den: api.Nat(r.Denom().Bytes())}
}

// odd is a number in any form.
func odd(d *die, r *big.Rat) api.Frac {
	if r.Sign() == 0 {
		return []api.Frac{{}, {Neg: true}, {Neg: true, Den: "\x05"}, {Num: "\x03", Den: "\x00"}, {Num: "\x00\x00", Den: "\x01"}}[d.n(5)]
	}
	by := big.NewInt(int64(1 + d.n(6)))
	ahead := strings.Repeat("\x00", d.n(3))
	return api.Frac{Num: api.Nat(ahead + string(new(big.Int).Mul(r.Num(), by).Bytes())), Den: api.Nat(string(new(big.Int).Mul(r.Denom(), by).Bytes()))}
}

// drawnRow has numbers of at least so many parts, which are often 0 where least is.
func drawnRow(d *die, size, least, most int) []api.Frac {
	weights := make([]int64, size)
	sum := int64(0)
	for i := range weights {
		weights[i] = int64(least + d.n(most))
		sum += weights[i]
	}
	if sum == 0 {
		i := d.n(size)
		weights[i], sum = 1, 1
	}
	var row []api.Frac
	for _, w := range weights {
		row = append(row, odd(d, big.NewRat(w, sum)))
	}
	return row
}

// netOf is a net of these sizes and parents.
func netOf(d *die, sizes []int, parents [][]int, least, most int) api.Net {
	n := api.Net{Parents: parents}
	for v, size := range sizes {
		n.Vars = append(n.Vars, api.Var{Name: fmt.Sprint("n", v), Values: slices.Clone([]string{"no", "yes", "so", "else_"}[:size])})
		rows := 1
		for _, u := range parents[v] {
			rows *= sizes[u]
		}
		var l []api.Frac
		for range rows {
			l = append(l, drawnRow(d, size, least, most)...)
		}
		n.Rows = append(n.Rows, l)
	}
	return n
}

// drawnParents are of a graph in which parents stand ahead of their children or behind them.
func drawnParents(d *die, count, most int) [][]int {
	parents, some := make([][]int, count), 2+d.n(3)
	var order []int
	for v := range count {
		order = slices.Insert(order, d.n(len(order)+1), v)
	}
	for i, v := range order {
		for _, u := range order[:i] {
			if d.n(some) == 0 && len(parents[v]) < most {
				parents[v] = append(parents[v], u)
			}
		}
		slices.Sort(parents[v])
	}
	return parents
}

// drawn is a net, without noughts where least is 1.
func drawn(d *die, count, least int) api.Net {
	var sizes []int
	for v := range count {
		sizes = append(sizes, 1+least+d.n(3-least+v%2))
	}
	return netOf(d, sizes, drawnParents(d, count, 3), least, 2+d.n(8))
}

func copied(n api.Net) api.Net {
	var m api.Net
	for _, x := range n.Vars {
		m.Vars = append(m.Vars, api.Var{Name: x.Name, Values: slices.Clone(x.Values)})
	}
	for _, l := range n.Parents {
		m.Parents = append(m.Parents, slices.Clone(l))
	}
	for _, l := range n.Rows {
		m.Rows = append(m.Rows, slices.Clone(l))
	}
	return m
}

// way is an assignment of all variables, and how likely it is.
type way struct {
	at []int
	p  *big.Rat
}

// ways are all of them where something is done, worked out from the net's numbers alone: what is done has no chance of its own.
func ways(n api.Net, done []api.Fact) []way {
	l := []way{{nil, nil}}
	for _, x := range n.Vars {
		var longer []way
		for _, w := range l {
			for value := range x.Values {
				longer = append(longer, way{at: append(slices.Clone(w.at), value)})
			}
		}
		l = longer
	}
	l = having(l, done)
	for i, w := range l {
		l[i].p = big.NewRat(1, 1)
		for v, x := range n.Vars {
			if slices.ContainsFunc(done, func(f api.Fact) bool { return f.Var == v }) {
				continue
			}
			row := 0
			for _, u := range n.Parents[v] {
				row = row*len(n.Vars[u].Values) + w.at[u]
			}
			l[i].p.Mul(l[i].p, rat(n.Rows[v][row*len(x.Values)+w.at[v]]))
		}
	}
	return l
}

// having are the ways that have the facts.
func having(l []way, facts []api.Fact) []way {
	return slices.DeleteFunc(slices.Clone(l), func(w way) bool {
		return slices.ContainsFunc(facts, func(f api.Fact) bool { return w.at[f.Var] != f.Value })
	})
}

func sum(l []way) *big.Rat {
	s := new(big.Rat)
	for _, w := range l {
		s.Add(s, w.p)
	}
	return s
}

// assignments are all facts of some variables, in order.
func assignments(n api.Net, vars []int) [][]api.Fact {
	l := [][]api.Fact{nil}
	for _, v := range vars {
		var longer [][]api.Fact
		for _, facts := range l {
			for value := range n.Vars[v].Values {
				longer = append(longer, append(slices.Clone(facts), api.Fact{Var: v, Value: value}))
			}
		}
		l = longer
	}
	return l
}

// shares are how likely each assignment is among the ways, if these may be.
func shares(n api.Net, vars []int, l []way) ([]api.Frac, bool) {
	whole := sum(l)
	if whole.Sign() == 0 {
		return nil, false
	}
	var cells []api.Frac
	for _, facts := range assignments(n, vars) {
		part := sum(having(l, facts))
		cells = append(cells, lowest(part.Quo(part, whole)))
	}
	return cells, true
}

// drawnFacts are of some of these variables, in any order.
func drawnFacts(d *die, n api.Net, vars []int) []api.Fact {
	var l []api.Fact
	for _, v := range vars {
		l = slices.Insert(l, d.n(len(l)+1), api.Fact{Var: v, Value: d.n(len(n.Vars[v].Values))})
	}
	return l
}

// parted lays each of the numbers below count into one of so many lists, which rise.
func parted(d *die, count, lists int) [][]int {
	l := make([][]int, lists)
	for v := range count {
		i := d.n(lists)
		l[i] = append(l[i], v)
	}
	return l
}

func told(n api.Net) string {
	text, _ := net.Print(n)
	return text
}

func texts(l []api.Frac) string {
	s := ""
	for _, f := range l {
		s += " " + frac.Text(f)
	}
	return strings.TrimSpace(s)
}

func parsed(t *testing.T, text string) api.Net {
	t.Helper()
	n, e := net.Parse(text)
	if e != api.OK {
		t.Fatalf("Parse: error %d", e)
	}
	return n
}
