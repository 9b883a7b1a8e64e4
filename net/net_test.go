package net_test

import (
	"fmt"
	"math/big"
	"reflect"
	"slices"
	"strings"
	"testing"

	"augur/api"
	"augur/net"
)

// die gives numbers that look drawn, the same each time.
type die uint64

func (d *die) n(most int) int {
	*d = *d*6364136223846793005 + 1442695040888963407
	return int(uint64(*d>>33) % uint64(most))
}

// over is num/den, not brought to lowest terms.
func over(num, den int64) api.Frac {
	return api.Frac{Num: api.Nat(big.NewInt(num).Bytes()), Den: api.Nat(big.NewInt(den).Bytes())}
}

func rat(f api.Frac) *big.Rat {
	num, den := new(big.Int).SetBytes([]byte(f.Num)), new(big.Int).SetBytes([]byte(f.Den))
	if den.Sign() == 0 {
		return new(big.Rat)
	}
	if f.Neg {
		num.Neg(num)
	}
	return new(big.Rat).SetFrac(num, den)
}

// lowest is what of a number in lowest terms must come out.
func lowest(r *big.Rat) api.Frac {
	return api.Frac{Neg: r.Sign() < 0, Num: api.Nat(r.Num().Bytes()), Den: api.Nat(r.Denom().Bytes())}
}

// odd is the same number in another form.
func odd(d *die, f api.Frac) api.Frac {
	r := rat(f)
	if r.Sign() == 0 {
		return []api.Frac{{}, {Neg: true}, {Neg: true, Den: "\x05"}, {Num: "\x03", Den: "\x00"}, {Num: "\x00\x00", Den: "\x01"}}[d.n(5)]
	}
	by := big.NewInt(int64(1 + d.n(6)))
	ahead := strings.Repeat("\x00", d.n(3))
	return api.Frac{Num: api.Nat(ahead + string(new(big.Int).Mul(r.Num(), by).Bytes())), Den: api.Nat(string(new(big.Int).Mul(r.Denom(), by).Bytes()))}
}

func drawnRow(d *die, size int) []api.Frac {
	var weights []int64
	sum := int64(0)
	for range size {
		weights = append(weights, int64(d.n(7)))
		sum += weights[len(weights)-1]
	}
	if sum == 0 {
		weights[0], sum = 1, 1
	}
	var row []api.Frac
	for _, w := range weights {
		row = append(row, odd(d, over(w, sum)))
	}
	return row
}

// drawn is a net in which parents stand ahead of their children or behind them.
func drawn(d *die, most int) api.Net {
	count := 1 + d.n(most)
	n := api.Net{Vars: make([]api.Var, count), Parents: make([][]int, count), Rows: make([][]api.Frac, count)}
	for v := range count {
		n.Vars[v] = api.Var{Name: fmt.Sprint("n", v), Values: slices.Clone([]string{"no", "yes", "n0", "so_"}[:1+d.n(4)])}
	}
	var order []int
	for v := range count {
		order = slices.Insert(order, d.n(len(order)+1), v)
	}
	for i, v := range order {
		rows := 1
		for _, u := range order[:i] {
			if d.n(2) == 0 && len(n.Parents[v]) < 3 {
				n.Parents[v] = append(n.Parents[v], u)
				rows *= len(n.Vars[u].Values)
			}
		}
		slices.Sort(n.Parents[v])
		for range rows {
			n.Rows[v] = append(n.Rows[v], drawnRow(d, len(n.Vars[v].Values))...)
		}
	}
	return n
}

// copied shares nothing with n.
func copied(n api.Net) api.Net {
	var m api.Net
	for _, x := range n.Vars {
		m.Vars = append(m.Vars, api.Var{Name: x.Name, Values: slices.Clone(x.Values)})
	}
	for _, l := range n.Parents {
		m.Parents = append(m.Parents, slices.Clone(l))
	}
	for _, l := range n.Rows {
		m.Rows = append(m.Rows, slices.Clone(l))
	}
	return m
}

// like says whether two nets are the same, in whatever form their numbers are.
func like(a, b api.Net) bool {
	told := func(n api.Net) string {
		s := fmt.Sprintf("%q %v", n.Vars, n.Parents)
		for _, l := range n.Rows {
			s += ";"
			for _, f := range l {
				s += " " + rat(f).String()
			}
		}
		return s
	}
	return told(a) == told(b)
}

// turns goes through all assignments, the last fastest.
func turns(sizes []int, each func(at []int)) {
	at := make([]int, len(sizes))
	for {
		each(at)
		i := len(at) - 1
		for ; i >= 0; i-- {
			if at[i]++; at[i] < sizes[i] {
				break
			}
			at[i] = 0
		}
		if i < 0 {
			return
		}
	}
}

func of(all, which []int) []int {
	l := []int{}
	for _, v := range which {
		l = append(l, all[v])
	}
	return l
}

// chances is, by the values of the parents and of v, what the rows have: each assignment of the parents takes the next row.
func chances(n api.Net, v int) map[string]*big.Rat {
	m, rows := map[string]*big.Rat{}, n.Rows[v]
	turns(of(net.Sizes(n), n.Parents[v]), func(at []int) {
		for value := range n.Vars[v].Values {
			m[fmt.Sprint(at, value)], rows = rat(rows[0]), rows[1:]
		}
	})
	return m
}

// small is a net without faults: b hangs on a and c.
func small() api.Net {
	return api.Net{
		Vars:    []api.Var{{Name: "a", Values: []string{"x", "y"}}, {Name: "b", Values: []string{"x", "z"}}, {Name: "c", Values: []string{"u", "v", "w"}}},
		Parents: [][]int{nil, {0, 2}, nil},
		Rows: [][]api.Frac{
			{over(1, 2), over(1, 2)},
			{over(1, 1), over(0, 1), over(1, 3), over(2, 3), over(1, 4), over(3, 4), over(0, 1), over(1, 1), over(2, 5), over(3, 5), over(1, 7), over(6, 7)},
			{over(1, 6), over(1, 3), over(1, 2)},
		},
	}
}

func TestSizesB1(t *testing.T) {
	if s := net.Sizes(small()); !slices.Equal(s, []int{2, 2, 3}) {
		t.Error(s)
	}
	if s := net.Sizes(api.Net{}); len(s) != 0 {
		t.Error(s)
	}
	if s := net.Sizes(api.Net{Vars: []api.Var{{}, {Values: make([]string, 9)}}}); !slices.Equal(s, []int{0, 9}) {
		t.Error("of a net that may not be:", s)
	}
}

func TestNamesB1(t *testing.T) {
	for name, want := range map[string]api.Errno{
		"a": api.OK, "z": api.OK, "a_0z9": api.OK, "abcdefghijkl": api.OK, "vars": api.OK, "va": api.OK, "else_": api.OK, "elsf": api.OK,
		"": api.ErrWord, "abcdefghijklm": api.ErrWord, "var": api.ErrWord, "else": api.ErrWord, "_a": api.ErrWord, "0a": api.ErrWord, "A": api.ErrWord, "aB": api.ErrWord,
		"a-b": api.ErrWord, "a b": api.ErrWord, "a ": api.ErrWord, "é": api.ErrWord, "aé": api.ErrWord, "a{": api.ErrWord, "a`": api.ErrWord, "a/": api.ErrWord, "a:": api.ErrWord, "`": api.ErrWord, "{": api.ErrWord, "a\x00": api.ErrWord,
	} {
		n := small()
		n.Vars[2].Name = name
		if e := net.Check(n); e != want && name != "a" {
			t.Errorf("variable %q: %v", name, e)
		}
		n = small()
		n.Vars[2].Values[2] = name
		if e := net.Check(n); e != want {
			t.Errorf("value %q: %v", name, e)
		}
	}
}

// fault breaks a net in one way, so that Check should tell its error.
type fault struct {
	what  string
	want  api.Errno
	spoil func(n *api.Net)
}

// faults are in the order in which Check looks for them.
func faults() []fault {
	return []fault{
		{"fewer parents", api.ErrCount, func(n *api.Net) { n.Parents = n.Parents[:2] }},
		{"a row more", api.ErrCount, func(n *api.Net) { n.Rows = append(n.Rows, nil) }},
		{"its own parent", api.ErrVar, func(n *api.Net) { n.Parents[0] = []int{0} }},
		{"a cycle", api.ErrCycle, func(n *api.Net) { n.Parents[2] = []int{1} }},
		{"no name", api.ErrWord, func(n *api.Net) { n.Vars[0].Name = "A" }},
		{"a name again", api.ErrDouble, func(n *api.Net) { n.Vars[1].Name = n.Vars[0].Name }},
		{"a later one is no name", api.ErrWord, func(n *api.Net) { n.Vars[2].Name = "" }},
		{"no values", api.ErrLimit, func(n *api.Net) { n.Vars[0].Values = nil }},
		{"no name of a value", api.ErrWord, func(n *api.Net) { n.Vars[1].Values[0] = "var" }},
		{"a value again", api.ErrDouble, func(n *api.Net) { n.Vars[1].Values[1] = n.Vars[1].Values[0] }},
		{"five values", api.ErrLimit, func(n *api.Net) { n.Vars[2].Values = []string{"u", "u", "v", "w", "x"} }},
		{"a number too few", api.ErrCount, func(n *api.Net) { n.Rows[0] = n.Rows[0][:1] }},
		{"below 0", api.ErrSum, func(n *api.Net) {
			n.Rows[1][2], n.Rows[1][3] = api.Frac{Neg: true, Num: "\x01", Den: "\x01"}, over(2, 1)
		}},
		{"not 1 together", api.ErrSum, func(n *api.Net) { n.Rows[1][11] = over(5, 7) }},
		{"a number too many", api.ErrCount, func(n *api.Net) { n.Rows[2] = append(n.Rows[2], over(0, 1)) }},
	}
}

func TestCheckB2(t *testing.T) {
	if e := net.Check(small()); e != api.OK {
		t.Error(e)
	}
	l := faults()
	for i, a := range l {
		n := small()
		a.spoil(&n)
		if e := net.Check(n); e != a.want {
			t.Errorf("%s: %v, %v is wanted", a.what, e, a.want)
		}
		for _, b := range l[i+1:] {
			n := small()
			b.spoil(&n)
			a.spoil(&n)
			if e := net.Check(n); e != a.want {
				t.Errorf("%s, and %s: %v, %v is wanted", a.what, b.what, e, a.want)
			}
		}
	}
}

func TestCheckEdgesB2(t *testing.T) {
	nine := api.Net{Parents: make([][]int, 9), Rows: make([][]api.Frac, 9)}
	for v := range 9 {
		nine.Vars = append(nine.Vars, api.Var{Name: fmt.Sprint("n", v), Values: []string{"x"}})
		nine.Rows[v] = []api.Frac{over(1, 1)}
	}
	eight := api.Net{Vars: nine.Vars[:8], Parents: nine.Parents[:8], Rows: nine.Rows[:8]}
	for i, c := range []struct {
		n    api.Net
		want api.Errno
	}{
		{api.Net{}, api.ErrVar},
		{nine, api.ErrVar},
		{eight, api.OK},
		{api.Net{Vars: []api.Var{{Name: "a", Values: []string{"a"}}}, Parents: [][]int{nil}, Rows: [][]api.Frac{{over(7, 7)}}}, api.OK},
		{api.Net{Vars: []api.Var{{Name: "a", Values: []string{"w", "x", "y", "z"}}}, Parents: [][]int{{}}, Rows: [][]api.Frac{{over(2, 2), {Neg: true}, {Num: "\x01"}, {Neg: true, Den: "\x09"}}}}, api.OK},
		{api.Net{Vars: []api.Var{{Name: "a", Values: []string{"x", "y"}}}, Parents: [][]int{nil}, Rows: [][]api.Frac{{over(1, 2), over(1, 3)}}}, api.ErrSum},
		{api.Net{Vars: []api.Var{{Name: "a", Values: []string{"x", "y"}}}, Parents: [][]int{nil}, Rows: [][]api.Frac{{over(1, 1), over(1, 300)}}}, api.ErrSum},
		{api.Net{Vars: []api.Var{{Name: "a", Values: []string{"x", "y"}}}, Parents: [][]int{nil}, Rows: [][]api.Frac{{{}, {}}}}, api.ErrSum},
	} {
		if e := net.Check(c.n); e != c.want {
			t.Errorf("case %d: %v, %v is wanted", i, e, c.want)
		}
	}
}

func TestGivenB3(t *testing.T) {
	d := die(5)
	for range 200 {
		n := drawn(&d, 5)
		kept := copied(n)
		for v := range n.Vars {
			got, e := net.Given(n, v)
			vars := append(slices.Clone(n.Parents[v]), v)
			slices.Sort(vars)
			if e != api.OK || !slices.Equal(got.Vars, vars) {
				t.Fatal(n, v, got.Vars, e)
			}
			rows, cells := chances(n, v), got.Cells
			turns(of(net.Sizes(n), vars), func(at []int) {
				whole := make([]int, len(n.Vars))
				for i, u := range vars {
					whole[u] = at[i]
				}
				want := lowest(rows[fmt.Sprint(of(whole, n.Parents[v]), whole[v])])
				if cells[0] != want {
					t.Fatal(n, v, at, cells[0], want)
				}
				cells = cells[1:]
			})
			if len(cells) != 0 {
				t.Fatal(n, v, len(cells), "cells too many")
			}
			clear(got.Vars)
			clear(got.Cells)
		}
		if !reflect.DeepEqual(n, kept) {
			t.Fatal("what was handed in is changed")
		}
	}
}

func TestJointB3(t *testing.T) {
	d := die(6)
	for range 60 {
		n := drawn(&d, 4)
		kept, sum := copied(n), new(big.Rat)
		var rows []map[string]*big.Rat
		for v := range n.Vars {
			rows = append(rows, chances(n, v))
		}
		turns(net.Sizes(n), func(at []int) {
			want := big.NewRat(1, 1)
			for v := range n.Vars {
				want.Mul(want, rows[v][fmt.Sprint(of(at, n.Parents[v]), at[v])])
			}
			got, e := net.Joint(n, at)
			if e != api.OK || got != lowest(want) {
				t.Fatal(n, at, got, want, e)
			}
			sum.Add(sum, want)
		})
		if sum.Cmp(big.NewRat(1, 1)) != 0 || !reflect.DeepEqual(n, kept) {
			t.Fatal(n, sum)
		}
	}
}

func TestWrongAskedB3(t *testing.T) {
	for _, v := range []int{-1, 3, 1 << 40, -1 << 63} {
		if g, e := net.Given(small(), v); e != api.ErrVar || g.Vars != nil || g.Cells != nil {
			t.Error(v, g, e)
		}
	}
	for _, c := range []struct {
		at   []int
		want api.Errno
	}{
		{nil, api.ErrCount}, {[]int{0, 0}, api.ErrCount}, {[]int{0, 0, 0, 0}, api.ErrCount}, {[]int{0, 9}, api.ErrCount},
		{[]int{0, 0, 3}, api.ErrValue}, {[]int{2, 0, 0}, api.ErrValue}, {[]int{0, -1, 0}, api.ErrValue}, {[]int{1, 1, 2}, api.OK},
	} {
		if f, e := net.Joint(small(), c.at); e != c.want || e != api.OK && f != (api.Frac{}) {
			t.Error(c.at, f, e)
		}
	}
	for _, a := range faults() {
		n := small()
		a.spoil(&n)
		if g, e := net.Given(n, -1); e != a.want || g.Vars != nil || g.Cells != nil {
			t.Error(a.what, g, e)
		}
		if f, e := net.Joint(n, nil); e != a.want || f != (api.Frac{}) {
			t.Error(a.what, f, e)
		}
		if s, e := net.Print(n); e != a.want || s != "" {
			t.Error(a.what, s, e)
		}
	}
}

const declared = "var a { x y } var b { x z } var c { u v w } "

func TestParseB4(t *testing.T) {
	rest := "a : 1/2 1/2 ; c : 1/6 1/3 1/2 ; "
	for _, text := range []string{
		declared + rest + "b | a c { x u : 1 0 ; x v : 1/3 2/3 ; x w : 1/4 3/4 ; y u : 0 1 ; y v : 2/5 3/5 ; y w : 1/7 6/7 ; }",
		declared + rest + "b | c a { u x : 1 0 ; v x : 1/3 2/3 ; w x : 1/4 3/4 ; u y : 0 1 ; v y : 2/5 3/5 ; w y : 1/7 6/7 ; }",
		declared + "b | c a { w y : 2/14 12/14 ; u y : 0.0 1.0 ; v x : 1/3 2/3 ; v y : 0.40 0.6 ; w x : 0.25 0.750 ; else : 1 0 ; }" + rest,
		declared + rest + "b | a c { x u : 1 0 ; x v : 1/3 2/3 ; x w : 1/4 3/4 ; y u : 0 1 ; y v : 2/5 3/5 ; y w : 1/7 6/7 ; else : 1 0 ; }",
		"\n\tvar a{x y}var b{x z}a:1/2 1/2;var c{u v w}c:1/6 1/3 1/2;b|a c{x u:1 0;x v:1/3 2/3;x w:1/4 3/4;y u:0 1;y v:2/5 3/5;y w:1/7 6/7;}\t\n ",
	} {
		got, e := net.Parse(text)
		if e != api.OK || !like(got, small()) {
			t.Errorf("%q: %v %v", text, got, e)
		}
	}
	alone, e := net.Parse("var a { x y } var b { v w } b | a { else : 1/4 0.75 ; } a : 1 0 ;")
	want := api.Net{Vars: []api.Var{{Name: "a", Values: []string{"x", "y"}}, {Name: "b", Values: []string{"v", "w"}}}, Parents: [][]int{nil, {0}}, Rows: [][]api.Frac{{over(1, 1), over(0, 1)}, {over(1, 4), over(3, 4), over(1, 4), over(3, 4)}}}
	if e != api.OK || !like(alone, want) {
		t.Error("else alone:", alone, e)
	}
	if n, e := net.Parse("var a{a}a:1;"); e != api.OK || len(n.Vars) != 1 || n.Vars[0].Values[0] != "a" {
		t.Error("a value that is called as its variable:", n, e)
	}
}

func TestParseLengthB4(t *testing.T) {
	whole := "var a { x } a : 1 ;"
	if n, e := net.Parse(whole + strings.Repeat(" ", api.MaxText-len(whole))); e != api.OK || len(n.Vars) != 1 {
		t.Error("MaxText bytes:", n, e)
	}
	for _, text := range []string{whole + strings.Repeat("\n", api.MaxText-len(whole)+1), strings.Repeat("@", api.MaxText+1)} {
		if n, e := net.Parse(text); e != api.ErrLimit || n.Vars != nil || n.Parents != nil || n.Rows != nil {
			t.Error("a byte more:", n, e)
		}
	}
	if _, e := net.Parse(strings.Repeat("@", api.MaxText)); e != api.ErrWord {
		t.Error(e)
	}
}

func TestParseFaultsB5(t *testing.T) {
	ab := "var a { x y } var b { p q } b : 1 0 ; "
	eight := ""
	for i := range 8 {
		eight += fmt.Sprintf("var n%d { x } ", i)
	}
	for text, want := range map[string]api.Errno{
		// tokens that are none, and words too long
		"@": api.ErrWord, "var @": api.ErrWord, "var a @": api.ErrWord, "var a { x @": api.ErrWord, "var a { x } a @": api.ErrWord, "var a { x } a : @": api.ErrWord, "var a { x } a : 1 @": api.ErrWord, "var a { x } a : 1 ; \r": api.ErrWord,
		"var a { x } a : -1 ;": api.ErrWord, "var A { x }": api.ErrWord, "var aB { x }": api.ErrWord, "var é { x }": api.ErrWord, "var _a { x }": api.ErrWord, "var a { x, y }": api.ErrWord, "var a { x } a : .5 ;": api.ErrWord, "var a { x } a : 1\x00;": api.ErrWord, "\v": api.ErrWord, "\u00a0": api.ErrWord,
		"abcdefghijklm": api.ErrWord, "abcdefghijkl": api.ErrName, "var a { abcdefghijklm }": api.ErrWord, "var abcdefghijkl { abcdefghijkl } abcdefghijkl : 1 ;": api.OK, ab + "a | abcdefghijklm": api.ErrWord, ab + "a | b { abcdefghijklm": api.ErrWord,
		// tokens that can't stand there
		"1": api.ErrWord, "{": api.ErrWord, ";": api.ErrWord, "else": api.ErrWord, "var 1": api.ErrWord, "var var": api.ErrWord, "var else": api.ErrWord, "var {": api.ErrWord, "var a x": api.ErrWord, "var a :": api.ErrWord, "var a { }": api.ErrWord, "var a { 1": api.ErrWord, "var a { var": api.ErrWord, "var a { else": api.ErrWord, "var a { x else": api.ErrWord, "var a { x : ": api.ErrWord, "var a { x {": api.ErrWord, "var a1 { x } a1 1": api.ErrWord, "var a { x } a {": api.ErrWord, "var a { x } a a": api.ErrWord, "var a { x } ;": api.ErrWord, "var a { x } }": api.ErrWord,
		"var a { x } a : x ;": api.ErrWord, "var a { x } a : 1 x": api.ErrWord, "var a { x } a : 1 : ": api.ErrWord, "var a { x } a : 1 }": api.ErrWord, "var a { x } a : var": api.ErrWord, "var a { x } a : 1x ;": api.ErrWord, "var 1a { x }": api.ErrWord,
		ab + "a | {": api.ErrWord, ab + "a | 1": api.ErrWord, ab + "a | var": api.ErrWord, ab + "a | else": api.ErrWord, ab + "a | :": api.ErrWord, ab + "a | b :": api.ErrWord, ab + "a | b { :": api.ErrWord, ab + "a | b { 1": api.ErrWord, ab + "a | b { var": api.ErrWord, ab + "a | b { p p": api.ErrWord, ab + "a | b { p ;": api.ErrWord, ab + "a | b { p else": api.ErrWord, ab + "a | b { else p": api.ErrWord, ab + "a | b { p : 1 0 ; ;": api.ErrWord,
		ab + "a | b { else : 1 0 ; else : 1 0 ; }": api.ErrWord, ab + "a | b { else : 1 0 ; p : 1 0 ; }": api.ErrWord, ab + "a | b { else : 1 0 ; ;": api.ErrWord, ab + "a | b { else ; }": api.ErrWord,
		declared + "b | a c { x :": api.ErrWord, declared + "b | a c { x else": api.ErrWord, declared + "b | a c { x u x": api.ErrWord,
		// the end
		"": api.ErrShort, " \n\t": api.ErrShort, "var": api.ErrShort, "var a": api.ErrShort, "var a {": api.ErrShort, "var a { x": api.ErrShort, "var a { x } a": api.ErrShort, "var a { x } a :": api.ErrShort, "var a { x } a : 1": api.ErrShort, ab + "a |": api.ErrShort, ab + "a | b": api.ErrShort, ab + "a | b {": api.ErrShort, ab + "a | b { p": api.ErrShort, ab + "a | b { p :": api.ErrShort, ab + "a | b { p : 1 0": api.ErrShort, ab + "a | b { p : 1 0 ;": api.ErrShort, ab + "a | b { else": api.ErrShort, ab + "a | b { else :": api.ErrShort, ab + "a | b { else : 1 0": api.ErrShort, ab + "a | b { else : 1 0 ;": api.ErrShort, ab + "a | b { p : 1 0 ; q : 1 0 ;": api.ErrShort,
		// what is there already
		"var a { x } var a": api.ErrDouble, "var a { x x": api.ErrDouble, "var a { x } a : 1 ; a": api.ErrDouble, ab + "a | b { else : 1 0 ; } a": api.ErrDouble, ab + "b | a": api.ErrDouble, ab + "a | a": api.ErrDouble, ab + "a | b b": api.ErrDouble, ab + "a | b a": api.ErrDouble, ab + "a | b { p : 1 0 ; p :": api.ErrDouble, ab + "a | b { p : 1 0 ; p": api.ErrShort, ab + "a | b { p : 1 0 ; p ;": api.ErrWord, ab + "a | b { p : 1 0 ; q : 1 0 ; p : ": api.ErrDouble,
		eight + "var n0": api.ErrDouble, "var a { v w x y v": api.ErrDouble,
		// too many
		eight + "var n8": api.ErrLimit, eight + "n8": api.ErrName, eight + "var else": api.ErrWord, "var a { v w x y z": api.ErrLimit, "var a { v w x y } a : 1 0 0 0 ;": api.OK,
		// names that are not there
		"a": api.ErrName, "a :": api.ErrName, "var a { x } b": api.ErrName, "var a { x } x": api.ErrName, "var a { x } a | b": api.ErrName, ab + "a | p": api.ErrName, ab + "a | b { x": api.ErrName, ab + "a | b { a": api.ErrName, declared + "b | a c { x x": api.ErrName, declared + "b | c a { x": api.ErrName, "var a { x } a | b { else : 1 ; } var b { x } b : 1 ;": api.ErrName,
		// numbers
		"var a { x y } a : 1/0": api.ErrZero, "var a { x y } a : 1/2/3": api.ErrForm, "var a { x y } a : 1.": api.ErrForm, "var a { x y } a : 1..5": api.ErrForm, "var a { x y } a : 01": api.ErrForm, "var a { x y } a : 1/": api.ErrForm, "var a { x y } a : 0." + strings.Repeat("3", 400): api.ErrLimit, "var a { x y } a : " + strings.Repeat("3", 401): api.ErrLimit, ab + "a | b { else : 1/0": api.ErrZero,
		// too few and too many numbers
		"var a { x y } a : ;": api.ErrCount, "var a { x y } a : 1 ;": api.ErrCount, "var a { x y } a : 1/2 ; @": api.ErrCount, "var a { x y } a : 1/2 1/2 1/2": api.ErrCount, "var a { x y } a : 1/2 1/2 1/0": api.ErrZero, "var a { x y } a : 1/2 1/2 x": api.ErrWord, ab + "a | b { p : 1 ;": api.ErrCount, ab + "a | b { p : 1 0 0": api.ErrCount, ab + "a | b { else : 1 ;": api.ErrCount, ab + "a | b { else : ;": api.ErrCount,
		// no chances
		"var a { x y } a : 1/2 1/3 ;": api.ErrSum, "var a { x y } a : 1 1 ; @": api.ErrSum, "var a { x y } a : 0 0 ;": api.ErrSum, ab + "a | b { p : 1 1/2 ;": api.ErrSum, ab + "a | b { else : 1 1/2 ;": api.ErrSum, ab + "a | b { p : 1 0 ; q : 0 1 ; else : 1 1 ; }": api.ErrSum,
		// rows that are missing
		ab + "a | b { }": api.ErrCount, ab + "a | b { q : 1 0 ; }": api.ErrCount, ab + "a | b { q : 1 0 ; } @": api.ErrCount, ab + "a | b { q : 1 0 ; else : 1 0 ; }": api.OK, ab + "a | b { q : 1 0 ; p : 1 0 ; else : 1 0 ; }": api.OK,
		// what is wrong with the whole
		"var a { x }": api.ErrCount, ab: api.ErrCount, ab + "@": api.ErrWord, "var a { x } var b { x } var c { x } a | b { x : 1 ; } b | a { x : 1 ; }": api.ErrCount, "var a { x } var b { x } a | b { x : 1 ; } b | a { x : 1 ; }": api.ErrCycle, "var a { x } var b { x } a | b { x : 1 ; } b | a { x : 1 ; } b": api.ErrDouble,
	} {
		n, e := net.Parse(text)
		if e != want {
			t.Errorf("%q: %v, %v is wanted", text[:min(len(text), 120)], e, want)
		}
		if e != api.OK && (n.Vars != nil || n.Parents != nil || n.Rows != nil) {
			t.Errorf("%q: %v beside %v", text[:min(len(text), 120)], n, e)
		}
	}
}

// TestParseCutB5: wherever a text is cut, or a wrong token laid in, that is the first fault.
func TestParseCutB5(t *testing.T) {
	tokens := strings.Fields(declared + "a : 1/2 1/2 ; b | c a { w y : 1/7 6/7 ; u x : 1 0 ; else : 0.5 1/2 ; } c : 1 0 0 ;")
	ends := map[int]struct{}{} // where a part ends
	for i, token := range tokens {
		if token == "}" || token == ";" && (i+1 == len(tokens) || tokens[i+1] == "b") {
			ends[i+1] = struct{}{}
		}
	}
	for i := range tokens {
		want := api.ErrShort
		if _, ok := ends[i]; ok {
			want = api.ErrCount
		}
		if _, e := net.Parse(strings.Join(tokens[:i], " ")); e != want {
			t.Errorf("cut at %d, behind %v: %v, %v is wanted", i, tokens[:i], e, want)
		}
		for _, behind := range []string{"", " else", " @", " var a"} {
			if _, e := net.Parse(strings.Join(tokens[:i], " ") + " abcdefghijklmn" + behind); e != api.ErrWord {
				t.Errorf("a word too long behind %v: %v", tokens[:i], e)
			}
		}
	}
	if _, e := net.Parse(strings.Join(tokens, "\t\n")); e != api.OK {
		t.Error(e)
	}
}

func TestPrintB6(t *testing.T) {
	s, e := net.Print(small())
	want := "var a { x y }\nvar b { x z }\nvar c { u v w }\na : 1/2 1/2 ;\nb | a c {\n x u : 1 0 ;\n x v : 1/3 2/3 ;\n x w : 1/4 3/4 ;\n y u : 0 1 ;\n y v : 2/5 3/5 ;\n y w : 1/7 6/7 ;\n}\nc : 1/6 1/3 1/2 ;\n"
	if s != want || e != api.OK {
		t.Errorf("%q %v", s, e)
	}
	d := die(8)
	for range 300 {
		n := drawn(&d, 5)
		kept := copied(n)
		s, e := net.Print(n)
		if e != api.OK {
			t.Fatal(n, e)
		}
		if !reflect.DeepEqual(n, kept) {
			t.Fatal("what was handed in is changed")
		}
		m, e := net.Parse(s)
		if e != api.OK || !like(n, m) {
			t.Fatalf("%q: %v %v", s, m, e)
		}
		for _, l := range m.Rows {
			for _, f := range l {
				if f != lowest(rat(f)) {
					t.Fatal("not in lowest terms:", f)
				}
			}
		}
	}
}

// long is a net of one variable whose text has just so many bytes.
func long(t *testing.T, bytes int) api.Net {
	name := "a"
	for ; (bytes-len(name))%3 != 0; name += "a" {
	}
	// var N { x y }, N : 1/10.. 99../10.. ;
	for digits := bytes / 3; digits > 0; digits-- {
		den := new(big.Int).Exp(big.NewInt(10), big.NewInt(int64(digits)), nil)
		n := api.Net{Vars: []api.Var{{Name: name, Values: []string{"x", "y"}}}, Parents: [][]int{nil}, Rows: [][]api.Frac{{lowest(new(big.Rat).SetFrac(big.NewInt(1), den)), lowest(new(big.Rat).SetFrac(new(big.Int).Sub(den, big.NewInt(1)), den))}}}
		length := len("var  { x y }\n :   ;\n") + 2*len(name) + len("1//") + 3*digits + 2
		if length == bytes {
			return n
		}
		if length < bytes {
			n.Vars[0].Values[1] += strings.Repeat("y", bytes-length)
			return n
		}
	}
	t.Fatal("no such net")
	return api.Net{}
}

func TestPrintLengthB6(t *testing.T) {
	if s, e := net.Print(long(t, api.MaxText)); e != api.OK || len(s) != api.MaxText {
		t.Error(len(s), e)
	} else if _, e := net.Parse(s); e != api.ErrLimit {
		t.Error("numbers of more than MaxDigits digits:", e)
	}
	if s, e := net.Print(long(t, api.MaxText+1)); e != api.ErrLimit || s != "" {
		t.Error(len(s), e)
	}
	if s, e := net.Print(long(t, 3*api.MaxDigits)); e != api.OK {
		t.Error(len(s), e)
	} else if _, e := net.Parse(s); e != api.OK {
		t.Error("numbers of MaxDigits digits or fewer:", e)
	}
}

// TestFreshP2: nothing that comes out shares memory with anything else.
func TestFreshP2(t *testing.T) {
	text := declared + "a : 1/2 1/2 ; b | c a { else : 1/4 3/4 ; } c : 1 0 0 ;"
	got, _ := net.Parse(text)
	want := copied(got)
	for v := range got.Vars {
		got.Vars[v].Values[0], want.Vars[v].Values[0] = "other", "other"
		_ = append(got.Vars[v].Values, "more")
	}
	for v := range got.Rows {
		for i := range got.Rows[v] {
			got.Rows[v][i] = over(int64(v), int64(i+1))
			want.Rows[v][i] = over(int64(v), int64(i+1))
			if !reflect.DeepEqual(got.Rows, want.Rows) {
				t.Fatal("two rows share memory", v, i)
			}
		}
		_ = append(got.Rows[v], over(1, 1))
		_ = append(got.Parents[v], 7)
	}
	if !like(got, want) {
		t.Error(got, want)
	}
	n := small()
	s := net.Sizes(n)
	g, _ := net.Given(n, 1)
	s[0], g.Vars[0], g.Cells[0] = 9, 9, over(9, 1)
	if again, _ := net.Given(n, 1); !like(n, small()) || again.Vars[0] != 0 || net.Sizes(n)[0] != 2 {
		t.Error(n, again)
	}
	if again, _ := net.Parse(text); !reflect.DeepEqual(again.Rows[1][0], over(1, 4)) {
		t.Error(again)
	}
}

// TestAnyTextP1: drawn rows of tokens; what is taken may be, and comes back from its text.
func TestAnyTextP1(t *testing.T) {
	words := strings.Fields("var a b x y { } : ; | else 1 0 1/2 0.5 @ 1/0 abcdefghijklm")
	whole := strings.Fields("var a { x y } a : 1 0 ; var b { x } b | a { x : 1 ; else : 1 ; }")
	d := die(9)
	taken := 0
	for range 20000 {
		l := slices.Clone(whole)
		for range d.n(4) {
			switch i := d.n(len(l)); d.n(3) {
			case 0:
				l[i] = words[d.n(len(words))]
			case 1:
				l = slices.Insert(l, i, words[d.n(len(words))])
			case 2:
				l = slices.Delete(l, i, i+1)
			}
		}
		text := strings.Join(l, []string{" ", "\n", "\t "}[d.n(3)])
		n, e := net.Parse(text)
		if e != api.OK {
			if n.Vars != nil || n.Parents != nil || n.Rows != nil {
				t.Fatal(text, n, e)
			}
			continue
		}
		taken++
		s, e := net.Print(n)
		m, f := net.Parse(s)
		if net.Check(n) != api.OK || e != api.OK || f != api.OK || !reflect.DeepEqual(n, m) {
			t.Fatal(text, n, s, e, f)
		}
	}
	if taken < 1000 {
		t.Error("just", taken, "texts were nets")
	}
}

// TestAnyNetP1: nets with lists missing or wrong: no call may panic.
func TestAnyNetP1(t *testing.T) {
	d := die(10)
	for range 5000 {
		n := drawn(&d, 3)
		v := d.n(len(n.Vars))
		for range 1 + d.n(2) {
			switch d.n(7) {
			case 0:
				n.Parents = n.Parents[:d.n(len(n.Parents)+1)]
			case 1:
				n.Rows = n.Rows[:d.n(len(n.Rows)+1)]
			case 2:
				n.Vars[v].Values = nil
			case 3:
				if v < len(n.Parents) {
					n.Parents[v] = append(n.Parents[v], d.n(12)-4)
				}
			case 4:
				if v < len(n.Rows) {
					n.Rows[v] = n.Rows[v][:d.n(len(n.Rows[v])+1)]
				}
			case 5:
				n.Vars[v].Values = append(n.Vars[v].Values, "b4", "b5")
			case 6:
				n.Vars = append(n.Vars, api.Var{})
			}
		}
		e := net.Check(n)
		g, e1 := net.Given(n, 0)
		f, e2 := net.Joint(n, make([]int, len(n.Vars)))
		s, e3 := net.Print(n)
		if e1 != e || e2 != e || e3 != e || e != api.OK && (g.Vars != nil || g.Cells != nil || f != (api.Frac{}) || s != "") || len(net.Sizes(n)) != len(n.Vars) {
			t.Fatal(n, e, e1, e2, e3)
		}
	}
}
