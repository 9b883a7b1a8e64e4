package chain_test

import (
	"math/big"
	"slices"
	"strings"
	"testing"

	"augur/api"
	"augur/frac"
)

// die gives numbers that look drawn, the same each time.
type die uint64

func (d *die) n(most int) int {
	*d = *d*6364136223846793005 + 1442695040888963407
	return int(uint64(*d>>33) % uint64(most))
}

func rat(f api.Frac) *big.Rat {
	num, den := new(big.Int).SetBytes([]byte(f.Num)), new(big.Int).SetBytes([]byte(f.Den))
	if den.Sign() == 0 {
		return new(big.Rat)
	}
	if f.Neg {
		num.Neg(num)
	}
	return new(big.Rat).SetFrac(num, den)
}

// lowest is what of a number must come out (P4).
func lowest(r *big.Rat) api.Frac {
	return api.Frac{Neg: r.Sign() < 0, Num: api.Nat(r.Num().Bytes()), Den: api.Nat(r.Denom().Bytes())}
}

// odd is a number in any form.
func odd(d *die, r *big.Rat) api.Frac {
	if r.Sign() == 0 {
		return []api.Frac{{}, {Neg: true}, {Neg: true, Den: "\x05"}, {Num: "\x03", Den: "\x00"}, {Num: "\x00\x00", Den: "\x01"}}[d.n(5)]
	}
	by := big.NewInt(int64(1 + d.n(6)))
	ahead := strings.Repeat("\x00", d.n(3))
	num, den := new(big.Int).Mul(r.Num(), by), new(big.Int).Mul(r.Denom(), by)
	return api.Frac{Neg: r.Sign() < 0, Num: api.Nat(ahead + string(num.Bytes())), Den: api.Nat(ahead + string(den.Bytes()))}
}

// byWeights has of each state the chances that these weights give it; where all are 0 it stays.
func byWeights(d *die, weights [][]int) [][]api.Frac {
	var m [][]api.Frac
	for i, l := range weights {
		sum := 0
		for _, w := range l {
			sum += w
		}
		if sum == 0 {
			l, sum = slices.Clone(l), 1
			l[i] = 1
		}
		var row []api.Frac
		for _, w := range l {
			row = append(row, odd(d, big.NewRat(int64(w), int64(sum))))
		}
		m = append(m, row)
	}
	return m
}

// drawn is a chain in which ways are the rarer the greater rare is.
func drawn(d *die, count, rare int) [][]api.Frac {
	weights := make([][]int, count)
	for i := range weights {
		weights[i] = make([]int, count)
		for j := range weights[i] {
			if d.n(rare) == 0 {
				weights[i][j] = 1 + d.n(9)
			}
		}
	}
	return byWeights(d, weights)
}

// turning is a chain in which as much goes each way between any two.
func turning(d *die, count, rare int) [][]api.Frac {
	weights := make([][]int, count)
	for i := range weights {
		weights[i] = make([]int, count)
		for j := range i + 1 {
			if d.n(rare) == 0 {
				weights[i][j] = 1 + d.n(9)
				weights[j][i] = weights[i][j]
			}
		}
	}
	return byWeights(d, weights)
}

// eachDrawn goes through chains of all counts of states, of few ways and of many.
func eachDrawn(try func(d *die, m [][]api.Frac)) {
	d := die(7)
	for i := range 400 {
		count, rare := 1+i%api.MaxStates, 1+d.n(5)
		try(&d, drawn(&d, count, rare))
		if i%4 == 0 {
			try(&d, turning(&d, count, rare))
		}
	}
}

func rats(m [][]api.Frac) [][]*big.Rat {
	var l [][]*big.Rat
	for _, row := range m {
		var r []*big.Rat
		for _, f := range row {
			r = append(r, rat(f))
		}
		l = append(l, r)
	}
	return l
}

// reached are the states to which a state comes, found from it on, one by one.
func reached(m [][]api.Frac, from int) []int {
	l := []int{from}
	for i := 0; i < len(l); i++ {
		for j, f := range m[l[i]] {
			if rat(f).Sign() > 0 && !slices.Contains(l, j) {
				l = append(l, j)
			}
		}
	}
	return l
}

// closedStates are those that come back from all to which they come.
func closedStates(m [][]api.Frac) []int {
	var l []int
	for i := range m {
		if !slices.ContainsFunc(reached(m, i), func(j int) bool { return !slices.Contains(reached(m, j), i) }) {
			l = append(l, i)
		}
	}
	return l
}

// closedCount is how many classes are closed.
func closedCount(m [][]api.Frac) int {
	count := 0
	for _, i := range closedStates(m) {
		if slices.Min(reached(m, i)) == i {
			count++
		}
	}
	return count
}

// determinant goes through all orders, by the first row.
func determinant(m [][]*big.Rat) *big.Rat {
	if len(m) == 0 {
		return big.NewRat(1, 1)
	}
	sum := new(big.Rat)
	for j, f := range m[0] {
		if f.Sign() == 0 {
			continue
		}
		var rest [][]*big.Rat
		for _, row := range m[1:] {
			rest = append(rest, slices.Delete(slices.Clone(row), j, j+1))
		}
		term := determinant(rest)
		term.Mul(term, f)
		if j%2 == 1 {
			term.Neg(term)
		}
		sum.Add(sum, term)
	}
	return sum
}

// solved is the solution by quotients of determinants.
func solved(t *testing.T, m [][]*big.Rat, right []*big.Rat) []*big.Rat {
	t.Helper()
	whole := determinant(m)
	if whole.Sign() == 0 {
		t.Fatal("no one solution")
	}
	var l []*big.Rat
	for k := range m {
		var other [][]*big.Rat
		for i, row := range m {
			row = slices.Clone(row)
			row[k] = right[i]
			other = append(other, row)
		}
		part := determinant(other)
		l = append(l, part.Quo(part, whole))
	}
	return l
}

func texts(l []api.Frac) string {
	s := ""
	for _, f := range l {
		s += " " + frac.Text(f)
	}
	return strings.TrimSpace(s)
}

func rows(m [][]api.Frac) string {
	var l []string
	for _, row := range m {
		l = append(l, texts(row))
	}
	return strings.Join(l, "; ")
}

// made is the chain of a text: rows behind each other, ; between them.
func made(t *testing.T, text string) [][]api.Frac {
	t.Helper()
	var m [][]api.Frac
	for _, line := range strings.Split(text, ";") {
		var row []api.Frac
		for _, word := range strings.Fields(line) {
			f, e := frac.Parse(word)
			if e != api.OK {
				t.Fatalf("%s: error %d", word, e)
			}
			row = append(row, f)
		}
		m = append(m, row)
	}
	return m
}

// isNone: what may stand beside an error (P1).
func isNone(f api.Frac) bool {
	return f == api.Frac{} || f == api.Frac{Den: "\x01"}
}
