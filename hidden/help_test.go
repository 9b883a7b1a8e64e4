package hidden_test

import (
	"math/big"
	"slices"
	"strings"
	"testing"

	"augur/api"
	"augur/frac"
)

// die gives numbers that look drawn, the same each time.
type die uint64

func (d *die) n(most int) int {
	*d = *d*6364136223846793005 + 1442695040888963407
	return int(uint64(*d>>33) % uint64(most))
}

func rat(f api.Frac) *big.Rat {
	num, den := new(big.Int).SetBytes([]byte(f.Num)), new(big.Int).SetBytes([]byte(f.Den))
	if den.Sign() == 0 {
		return new(big.Rat)
	}
	if f.Neg {
		num.Neg(num)
	}
	return new(big.Rat).SetFrac(num, den)
}

// lowest is what of a number must come out (P4).
func lowest(r *big.Rat) api.Frac {
	return api.Frac{Neg: r.Sign() < 0, Num: api.Nat(r.Num().Bytes()), Den: api.Nat(r.Denom().Bytes())}
}

// odd is a number in any form.
func odd(d *die, r *big.Rat) api.Frac {
	if r.Sign() == 0 {
		return []api.Frac{{}, {Neg: true}, {Neg: true, Den: "\x05"}, {Num: "\x03", Den: "\x00"}, {Num: "\x00\x00", Den: "\x01"}}[d.n(5)]
	}
	by := big.NewInt(int64(1 + d.n(6)))
	ahead := strings.Repeat("\x00", d.n(3))
	return api.Frac{Num: api.Nat(ahead + string(new(big.Int).Mul(r.Num(), by).Bytes())), Den: api.Nat(ahead + string(new(big.Int).Mul(r.Denom(), by).Bytes()))}
}

// drawnRow has numbers that are often 0 or alike, where most is small.
func drawnRow(d *die, size, most int) []api.Frac {
	weights := make([]int64, size)
	sum := int64(0)
	for i := range weights {
		weights[i] = int64(d.n(most))
		sum += weights[i]
	}
	if sum == 0 {
		weights[d.n(size)], sum = 1, 1
	}
	var row []api.Frac
	for _, w := range weights {
		row = append(row, odd(d, big.NewRat(w, sum)))
	}
	return row
}

func drawn(d *die, states, signs, most int) api.Hidden {
	h := api.Hidden{Start: drawnRow(d, states, most)}
	for range states {
		h.Move, h.Show = append(h.Move, drawnRow(d, states, most)), append(h.Show, drawnRow(d, signs, most))
	}
	return h
}

// eachDrawn goes through hidden chains of all counts of states and signs, and what may be seen of them.
func eachDrawn(try func(d *die, h api.Hidden, seen []int)) {
	d := die(11)
	for i := range 320 {
		states, signs := 1+i%api.MaxHidden, 1+i/api.MaxHidden%api.MaxHidden
		h := drawn(&d, states, signs, 2+d.n(5))
		var seen []int
		for range d.n(6) {
			seen = append(seen, d.n(signs))
		}
		try(&d, h, seen)
	}
}

// way is a state for each sign, and how likely it is.
type way struct {
	at []int
	p  *big.Rat
}

// ways are all of them, in order, worked out from the numbers alone.
func ways(h api.Hidden, seen []int) []way {
	l := []way{{nil, big.NewRat(1, 1)}}
	for t, sign := range seen {
		var longer []way
		for _, w := range l {
			row := h.Start
			if t > 0 {
				row = h.Move[w.at[t-1]]
			}
			for state := range h.Start {
				p := new(big.Rat).Mul(w.p, rat(row[state]))
				longer = append(longer, way{append(slices.Clone(w.at), state), p.Mul(p, rat(h.Show[state][sign]))})
			}
		}
		l = longer
	}
	return l
}

func sum(l []way, which func(at []int) bool) *big.Rat {
	s := new(big.Rat)
	for _, w := range l {
		if which(w.at) {
			s.Add(s, w.p)
		}
	}
	return s
}

func texts(l []api.Frac) string {
	s := ""
	for _, f := range l {
		s += " " + frac.Text(f)
	}
	return strings.TrimSpace(s)
}

func rows(m [][]api.Frac) string {
	var l []string
	for _, row := range m {
		l = append(l, texts(row))
	}
	return strings.Join(l, "; ")
}

func told(h api.Hidden) string {
	return texts(h.Start) + " | " + rows(h.Move) + " | " + rows(h.Show)
}

func matrix(t *testing.T, text string) [][]api.Frac {
	t.Helper()
	var m [][]api.Frac
	for _, line := range strings.Split(text, ";") {
		var row []api.Frac
		for _, word := range strings.Fields(line) {
			f, e := frac.Parse(word)
			if e != api.OK {
				t.Fatalf("%s: error %d", word, e)
			}
			row = append(row, f)
		}
		m = append(m, row)
	}
	return m
}

// made is the hidden chain of a text: Start | Move | Show, with ; between rows.
func made(t *testing.T, text string) api.Hidden {
	t.Helper()
	parts := strings.Split(text, "|")
	if len(parts) != 3 {
		t.Fatalf("%s: %d parts", text, len(parts))
	}
	return api.Hidden{Start: matrix(t, parts[0])[0], Move: matrix(t, parts[1]), Show: matrix(t, parts[2])}
}

// isNone: what may stand beside an error (P1).
func isNone(f api.Frac) bool {
	return f == api.Frac{} || f == api.Frac{Den: "\x01"}
}
