package learn_test

import (
	"fmt"
	"math/big"
	"slices"
	"strings"
	"testing"

	"augur/api"
	"augur/frac"
	"augur/net"
)

// die gives numbers that look drawn, the same each time.
type die uint64

func (d *die) n(most int) int {
	*d = *d*6364136223846793005 + 1442695040888963407
	return int(uint64(*d>>33) % uint64(most))
}

func rat(f api.Frac) *big.Rat {
	num, den := new(big.Int).SetBytes([]byte(f.Num)), new(big.Int).SetBytes([]byte(f.Den))
	if den.Sign() == 0 {
		return new(big.Rat)
	}
	if f.Neg {
		num.Neg(num)
	}
	return new(big.Rat).SetFrac(num, den)
}

// lowest is what of a number must come out (P4).
func lowest(r *big.Rat) api.Frac {
	return api.Frac{Neg: r.Sign() < 0, Num: api.Nat(r.Num().Bytes()), Den: api.Nat(r.Denom().Bytes())}
}

// odd is a number in any form.
func odd(d *die, r *big.Rat) api.Frac {
	if r.Sign() == 0 {
		return []api.Frac{{}, {Neg: true}, {Neg: true, Den: "\x05"}, {Num: "\x03", Den: "\x00"}, {Num: "\x00\x00", Den: "\x01"}}[d.n(5)]
	}
	by := big.NewInt(int64(1 + d.n(6)))
	ahead := strings.Repeat("\x00", d.n(3))
	return api.Frac{Num: api.Nat(ahead + string(new(big.Int).Mul(r.Num(), by).Bytes())), Den: api.Nat(string(new(big.Int).Mul(r.Denom(), by).Bytes()))}
}

// drawnRow has numbers of which those of a small most are often alike, or 0.
func drawnRow(d *die, size, most int) []api.Frac {
	weights := make([]int64, size)
	sum := int64(0)
	for i := range weights {
		weights[i] = int64(d.n(most))
		sum += weights[i]
	}
	if sum == 0 {
		weights[d.n(size)], sum = 1, 1
	}
	var row []api.Frac
	for _, w := range weights {
		row = append(row, odd(d, big.NewRat(w, sum)))
	}
	return row
}

// netOf is a net of these sizes and parents.
func netOf(d *die, sizes []int, parents [][]int, most int) api.Net {
	n := api.Net{Parents: parents}
	for v, size := range sizes {
		n.Vars = append(n.Vars, api.Var{Name: fmt.Sprint("n", v), Values: slices.Clone([]string{"no", "yes", "so", "else_"}[:size])})
		var l []api.Frac
		for range countOf(sizes, parents[v]) {
			l = append(l, drawnRow(d, size, most)...)
		}
		n.Rows = append(n.Rows, l)
	}
	return n
}

func countOf(sizes, vars []int) int {
	count := 1
	for _, u := range vars {
		count *= sizes[u]
	}
	return count
}

// drawn is a net in which parents stand ahead of their children or behind them.
func drawn(d *die, count int) api.Net {
	var sizes, order []int
	parents := make([][]int, count)
	for v := range count {
		sizes = append(sizes, 1+d.n(3+v%2))
		order = slices.Insert(order, d.n(len(order)+1), v)
	}
	for i, v := range order {
		for _, u := range order[:i] {
			if d.n(2) == 0 && len(parents[v]) < 3 {
				parents[v] = append(parents[v], u)
			}
		}
		slices.Sort(parents[v])
	}
	return netOf(d, sizes, parents, 2+d.n(8))
}

// drawnData are some rows, of which one in so many values was not seen (0: all were).
func drawnData(d *die, sizes []int, gaps int) [][]int {
	var data [][]int
	for range d.n(api.MaxData + 1) {
		var row []int
		for _, size := range sizes {
			value := d.n(size)
			if gaps > 0 && d.n(gaps) == 0 {
				value = -1
			}
			row = append(row, value)
		}
		data = append(data, row)
	}
	return data
}

// each goes through drawn nets and data, those where all was seen among them.
func each(t *testing.T, times int, try func(d *die, n api.Net, data [][]int)) {
	t.Helper()
	d := die(13)
	for i := range times {
		n := drawn(&d, 1+i%5)
		if e := net.Check(n); e != api.OK {
			t.Fatalf("a drawn net: error %d", e)
		}
		for gaps := range 4 {
			try(&d, n, drawnData(&d, net.Sizes(n), gaps))
		}
	}
}

// way is an assignment of all variables, and how likely it is.
type way struct {
	at []int
	p  *big.Rat
}

// ways are all of them, in order, worked out from the net's numbers alone.
func ways(n api.Net) []way {
	l := []way{{nil, nil}}
	for _, x := range n.Vars {
		var longer []way
		for _, w := range l {
			for value := range x.Values {
				longer = append(longer, way{at: append(slices.Clone(w.at), value)})
			}
		}
		l = longer
	}
	for i, w := range l {
		l[i].p = big.NewRat(1, 1)
		for v := range n.Vars {
			l[i].p.Mul(l[i].p, rat(n.Rows[v][placeOf(n, v, w.at)]))
		}
	}
	return l
}

// placeOf is where in the rows of v an assignment's number stands.
func placeOf(n api.Net, v int, at []int) int {
	row := 0
	for _, u := range n.Parents[v] {
		row = row*len(n.Vars[u].Values) + at[u]
	}
	return row*len(n.Vars[v].Values) + at[v]
}

// having are the ways that are as a row of data says.
func having(l []way, row []int) []way {
	return slices.DeleteFunc(slices.Clone(l), func(w way) bool {
		for v, value := range row {
			if value != -1 && w.at[v] != value {
				return true
			}
		}
		return false
	})
}

func sum(l []way) *big.Rat {
	s := new(big.Rat)
	for _, w := range l {
		s.Add(s, w.p)
	}
	return s
}

// likely is how likely data are, by the sum over all ways.
func likely(n api.Net, data [][]int) *big.Rat {
	all, product := ways(n), big.NewRat(1, 1)
	for _, row := range data {
		product.Mul(product, sum(having(all, row)))
	}
	return product
}

func told(n api.Net, data [][]int) string {
	text, _ := net.Print(n)
	return fmt.Sprintf("%s%v", text, data)
}

func texts(l []api.Frac) string {
	s := ""
	for _, f := range l {
		s += " " + frac.Text(f)
	}
	return strings.TrimSpace(s)
}

func rows(m [][]api.Frac) string {
	var l []string
	for _, row := range m {
		l = append(l, texts(row))
	}
	return strings.Join(l, "; ")
}

func parsed(t *testing.T, text string) api.Net {
	t.Helper()
	n, e := net.Parse(text)
	if e != api.OK {
		t.Fatalf("Parse: error %d", e)
	}
	return n
}

func copied(n api.Net) api.Net {
	var m api.Net
	for v, x := range n.Vars {
		m.Vars = append(m.Vars, api.Var{Name: x.Name, Values: slices.Clone(x.Values)})
		m.Parents, m.Rows = append(m.Parents, slices.Clone(n.Parents[v])), append(m.Rows, slices.Clone(n.Rows[v]))
	}
	return m
}

// isNone: what may stand beside an error (P1).
func isNone(f api.Frac) bool {
	return f == api.Frac{} || f == api.Frac{Den: "\x01"}
}

// spoilt are nets that may not be.
func spoilt(t *testing.T) map[string]api.Net {
	t.Helper()
	nets := map[string]api.Net{"nothing": {}}
	for what, spoil := range map[string]func(n *api.Net){
		"no rows":       func(n *api.Net) { n.Rows = nil },
		"few parents":   func(n *api.Net) { n.Parents = n.Parents[:2] },
		"cycle":         func(n *api.Net) { n.Parents[0] = []int{1} },
		"no such node":  func(n *api.Net) { n.Parents[1] = []int{7} },
		"no name":       func(n *api.Net) { n.Vars[1].Name = "Else" },
		"like names":    func(n *api.Net) { n.Vars[1].Name = n.Vars[0].Name },
		"no values":     func(n *api.Net) { n.Vars[2].Values = nil },
		"few numbers":   func(n *api.Net) { n.Rows[1] = n.Rows[1][:3] },
		"no sum of 1":   func(n *api.Net) { n.Rows[0][1] = frac.Of(1) },
		"numbers below": func(n *api.Net) { n.Rows[0][0], n.Rows[0][1] = frac.Of(2), frac.Of(-1) },
	} {
		n := parsed(t, "var a { x y } var b { x y } var c { x } a : 1/2 1/2 ; b | a { x : 1 0 ; y : 0 1 ; } c : 1 ;")
		spoil(&n)
		nets[what] = n
	}
	for what, n := range nets {
		if net.Check(n) == api.OK {
			t.Fatalf("%s: the net may be", what)
		}
	}
	return nets
}
