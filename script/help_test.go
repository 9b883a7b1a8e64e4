package script_test

import (
	"fmt"
	"math/big"
	"slices"
	"strings"
	"testing"

	"augur/api"
	"augur/script"
)

// die gives numbers that look drawn, the same each time.
type die uint64

func (d *die) n(most int) int {
	*d = *d*6364136223846793005 + 1442695040888963407
	return int(uint64(*d>>33) % uint64(most))
}

// over is num/den in lowest terms.
func over(num, den int64) api.Frac {
	r := big.NewRat(num, den)
	return api.Frac{Neg: r.Sign() < 0, Num: api.Nat(new(big.Int).Abs(r.Num()).Bytes()), Den: api.Nat(r.Denom().Bytes())}
}

func rat(f api.Frac) *big.Rat {
	return new(big.Rat).SetFrac(new(big.Int).SetBytes([]byte(f.Num)), new(big.Int).SetBytes([]byte(f.Den)))
}

// told is a program, field by field: lists without anything are alike.
func told(p api.Prog) string {
	s := ""
	for _, d := range p.Defs {
		s += fmt.Sprintf("fn %q %q [%s]\n", d.Name, d.Params, toldSteps(d.Body))
	}
	return s + toldSteps(p.Body)
}

func toldSteps(l []api.Stmt) string {
	s := ""
	for _, x := range l {
		s += fmt.Sprintf("(%d %q %d %s %s {%s} {%s})", x.Kind, x.Name, x.N, toldExpr(x.Expr), toldDraw(x.Draw), toldSteps(x.Body), toldSteps(x.Else))
	}
	return s
}

func toldExpr(e api.Expr) string {
	s := fmt.Sprintf("<%d %d %q", e.Op, e.N, e.Name)
	for _, x := range e.Args {
		s += toldExpr(x)
	}
	return s + ">"
}

func toldDraw(d api.Draw) string {
	s := fmt.Sprint(d.Kind, d.Lo, d.Hi, d.Values)
	for _, f := range append([]api.Frac{d.P}, d.Weights...) {
		s += fmt.Sprintf(" %v %x/%x", f.Neg, f.Num, f.Den)
	}
	return s
}

func number(n int) api.Expr                   { return api.Expr{Op: api.Number, N: n} }
func named(name string) api.Expr              { return api.Expr{Op: api.Name, Name: name} }
func op(op int, args ...api.Expr) api.Expr    { return api.Expr{Op: op, Args: args} }
func use(f string, args ...api.Expr) api.Expr { return api.Expr{Op: api.Use, Name: f, Args: args} }

func let(name string, e api.Expr) api.Stmt { return api.Stmt{Kind: api.Let, Name: name, Expr: e} }
func set(name string, e api.Expr) api.Stmt { return api.Stmt{Kind: api.Set, Name: name, Expr: e} }
func roll(name string, d api.Draw) api.Stmt {
	return api.Stmt{Kind: api.Roll, Name: name, Draw: d}
}
func again(name string, d api.Draw) api.Stmt {
	return api.Stmt{Kind: api.Again, Name: name, Draw: d}
}
func observe(e api.Expr) api.Stmt { return api.Stmt{Kind: api.Observe, Expr: e} }
func giving(e api.Expr) api.Stmt  { return api.Stmt{Kind: api.Return, Expr: e} }
func repeat(n int, l ...api.Stmt) api.Stmt {
	return api.Stmt{Kind: api.Repeat, N: n, Body: l}
}
func choice(e api.Expr, body, other []api.Stmt) api.Stmt {
	return api.Stmt{Kind: api.If, Expr: e, Body: body, Else: other}
}

func flip(num, den int64) api.Draw { return api.Draw{Kind: api.Flip, P: over(num, den)} }
func among(lo, hi int) api.Draw    { return api.Draw{Kind: api.Range, Lo: lo, Hi: hi} }
func pick(values []int, weights ...api.Frac) api.Draw {
	return api.Draw{Kind: api.Pick, Values: values, Weights: weights}
}

// prog is a program without functions.
func prog(l ...api.Stmt) api.Prog { return api.Prog{Body: l} }

// drawing makes programs of all that S2 has, no deeper than a text may be.
type drawing struct {
	*die
	levels int
}

func (d drawing) name() string {
	return []string{"a", "z", "x1", "a_9z", "abcdefghijkl", "fns", "retur", "pick_", "nota"}[d.n(9)]
}

func (d drawing) whole() int {
	return []int{0, 1, -1, 9, 10, 999, -999, d.n(999), -d.n(999)}[d.n(9)]
}

func (d drawing) part() api.Frac {
	return over(int64(d.n(5)), int64(1+d.n(6)))
}

func (d drawing) expr() api.Expr {
	d.levels++
	kind := 1 + d.n(api.Mod)
	if d.levels >= api.MaxNest {
		kind = 1 + d.n(2)
	}
	switch kind {
	case api.Number:
		return number(d.whole())
	case api.Name:
		return named(d.name())
	case api.Not:
		return op(kind, d.expr())
	case api.Use:
		e := use(d.name())
		for range d.n(5) {
			e.Args = append(e.Args, d.expr())
		}
		return e
	}
	if d.n(3) == 0 {
		d.levels = api.MaxNest
	}
	return op(kind, d.expr(), d.expr())
}

func (d drawing) draw() api.Draw {
	switch d.n(3) {
	case 0:
		return api.Draw{Kind: api.Flip, P: d.part()}
	case 1:
		return among(d.whole(), d.whole())
	}
	x := api.Draw{Kind: api.Pick}
	for range 1 + d.n(8) {
		x.Values, x.Weights = append(x.Values, d.whole()), append(x.Weights, d.part())
	}
	return x
}

func (d drawing) steps() []api.Stmt {
	d.levels += 3
	var l []api.Stmt
	for range d.n(4) {
		s := api.Stmt{Kind: 1 + d.n(7)}
		switch s.Kind {
		case api.Let, api.Set:
			s.Name, s.Expr = d.name(), d.expr()
		case api.Roll, api.Again:
			s.Name, s.Draw = d.name(), d.draw()
		case api.If:
			s.Expr = d.expr()
		case api.Repeat:
			s.N = d.n(17)
		case api.Observe:
			s.Expr = d.expr()
		}
		if d.levels < api.MaxNest {
			if s.Kind == api.If || s.Kind == api.Repeat {
				s.Body = d.steps()
			}
			if s.Kind == api.If {
				s.Else = d.steps()
			}
		}
		l = append(l, s)
	}
	return l
}

func (d drawing) body() []api.Stmt {
	return append(d.steps(), giving(d.expr()))
}

func (d drawing) prog() api.Prog {
	var p api.Prog
	for range d.n(3) {
		f := api.Def{Name: d.name(), Body: d.body()}
		for range d.n(5) {
			f.Params = append(f.Params, d.name())
		}
		p.Defs = append(p.Defs, f)
	}
	p.Body = d.body()
	return p
}

// loose writes programs token by token, with more brackets than are needed and parts that are not in lowest terms.
type loose struct {
	*die
	out []string
}

func (w *loose) put(words ...string) { w.out = append(w.out, words...) }

func (w *loose) whole(n int) {
	if n < 0 || n == 0 && w.n(2) == 0 {
		w.put("-")
		n = -n
	}
	w.put(fmt.Sprint(n))
}

func (w *loose) part(f api.Frac) {
	r := rat(f)
	if r.IsInt() && w.n(2) == 0 {
		w.put(r.Num().String())
		return
	}
	by := big.NewInt(int64(1 + w.n(5)))
	w.put(new(big.Int).Mul(r.Num(), by).String(), "/", new(big.Int).Mul(r.Denom(), by).String())
}

func (w *loose) list(i int) {
	if i > 0 {
		w.put(",")
	}
}

// expr puts brackets round all that is not one token, and here and there round what is.
func (w *loose) expr(e api.Expr) {
	words := [...]string{api.Or: "or", api.And: "and", api.Eq: "==", api.Ne: "!=", api.Lt: "<", api.Le: "<=", api.Gt: ">", api.Ge: ">=", api.Add: "+", api.Sub: "-", api.Mul: "*", api.Div: "/", api.Mod: "%"}
	switch e.Op {
	case api.Number:
		w.whole(e.N)
	case api.Name:
		w.put(e.Name)
	case api.Use:
		w.put(e.Name, "(")
		for i, x := range e.Args {
			w.list(i)
			w.expr(x)
		}
		w.put(")")
	case api.Not:
		w.put("not", "(")
		w.expr(e.Args[0])
		w.put(")")
	default:
		w.put("(")
		w.expr(e.Args[0])
		w.put(")", words[e.Op], "(")
		w.expr(e.Args[1])
		w.put(")")
	}
}

func (w *loose) draw(d api.Draw) {
	switch d.Kind {
	case api.Flip:
		w.put("flip")
		w.part(d.P)
	case api.Range:
		w.put("range")
		w.whole(d.Lo)
		w.whole(d.Hi)
	case api.Pick:
		w.put("pick", "{")
		for i, v := range d.Values {
			w.list(i)
			w.whole(v)
			w.put(":")
			w.part(d.Weights[i])
		}
		w.put("}")
	}
	w.put(";")
}

func (w *loose) steps(l []api.Stmt) {
	for _, s := range l {
		words := [...][]string{api.Let: {"let", s.Name, "="}, api.Roll: {"let", s.Name, "~"}, api.Set: {s.Name, "="}, api.Again: {s.Name, "~"}, api.If: {"if"}, api.Repeat: {"repeat", fmt.Sprint(s.N)}, api.Observe: {"observe"}, api.Return: {"return"}}
		w.put(words[s.Kind]...)
		switch s.Kind {
		case api.Roll, api.Again:
			w.draw(s.Draw)
		case api.If:
			w.expr(s.Expr)
			w.block(s.Body)
			if len(s.Else) > 0 || w.n(2) == 0 {
				w.put("else")
				w.block(s.Else)
			}
		case api.Repeat:
			w.block(s.Body)
		default:
			w.expr(s.Expr)
			w.put(";")
		}
	}
}

func (w *loose) block(l []api.Stmt) {
	w.put("{")
	w.steps(l)
	w.put("}")
}

func (w *loose) prog(p api.Prog) {
	for _, d := range p.Defs {
		w.put("fn", d.Name, "(")
		for i, name := range d.Params {
			w.list(i)
			w.put(name)
		}
		w.put(")")
		w.block(d.Body)
	}
	w.steps(p.Body)
}

// apart says whether two tokens need something between them.
func apart(a, b string) bool {
	joins := func(c byte) bool { return c == '_' || c >= '0' && c <= '9' || c >= 'a' && c <= 'z' }
	digits := strings.Trim(a, "0123456789") == ""
	if joins(a[len(a)-1]) && joins(b[0]) {
		return !digits || b[0] >= '0' && b[0] <= '9'
	}
	return b[0] == '=' && strings.Contains("=<>!", a)
}

// spread lays tokens one behind the other, with more, fewer and other blanks between.
func spread(d *die, l []string) string {
	s := []string{"", " ", "\n\t"}[d.n(3)]
	for i, token := range l {
		if i > 0 && (apart(l[i-1], token) || d.n(2) == 0) {
			s += []string{" ", "\n", "\t", "  \n", " "}[d.n(5)]
		}
		s += token
	}
	return s + []string{"", " ", "\n", "\t\n "}[d.n(4)]
}

// parsed is what is read of a text that is right.
func parsed(t *testing.T, text string) api.Prog {
	t.Helper()
	p, e := script.Parse(text)
	if e != api.OK {
		t.Fatalf("%.300q: error %d", text, e)
	}
	return p
}

// copied shares nothing with p.
func copied(p api.Prog) api.Prog {
	var q api.Prog
	for _, d := range p.Defs {
		q.Defs = append(q.Defs, api.Def{Name: d.Name, Params: slices.Clone(d.Params), Body: copiedSteps(d.Body)})
	}
	q.Body = copiedSteps(p.Body)
	return q
}

func copiedSteps(l []api.Stmt) []api.Stmt {
	l = slices.Clone(l)
	for i, s := range l {
		l[i].Expr.Args = copiedExprs(s.Expr.Args)
		l[i].Draw.Weights, l[i].Draw.Values = slices.Clone(s.Draw.Weights), slices.Clone(s.Draw.Values)
		l[i].Body, l[i].Else = copiedSteps(s.Body), copiedSteps(s.Else)
	}
	return l
}

func copiedExprs(l []api.Expr) []api.Expr {
	l = slices.Clone(l)
	for i, e := range l {
		l[i].Args = copiedExprs(e.Args)
	}
	return l
}
