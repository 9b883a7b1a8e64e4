package chance_test

import (
	"fmt"
	"math/big"
	"slices"
	"strings"
	"testing"

	"augur/api"
	"augur/chance"
	"augur/script"
)

// die gives numbers that look drawn, the same each time.
type die uint64

func (d *die) n(most int) int {
	*d = *d*6364136223846793005 + 1442695040888963407
	return int(uint64(*d>>33) % uint64(most))
}

// over is num/den in lowest terms.
func over(num, den int64) api.Frac { return lowest(big.NewRat(num, den)) }

// lowest is what of a number must come out (P4).
func lowest(r *big.Rat) api.Frac {
	return api.Frac{Neg: r.Sign() < 0, Num: api.Nat(r.Num().Bytes()), Den: api.Nat(r.Denom().Bytes())}
}

func rat(f api.Frac) *big.Rat {
	num, den := new(big.Int).SetBytes([]byte(f.Num)), new(big.Int).SetBytes([]byte(f.Den))
	if den.Sign() == 0 {
		return new(big.Rat)
	}
	if f.Neg {
		num.Neg(num)
	}
	return new(big.Rat).SetFrac(num, den)
}

// parsed is what is read of a text that is right.
func parsed(t *testing.T, text string) api.Prog {
	t.Helper()
	p, e := script.Parse(text)
	if e != api.OK {
		t.Fatalf("%.300q: error %d", text, e)
	}
	return p
}

// toldFrac tells the bytes of a number: what is not in lowest terms is told otherwise than what is.
func toldFrac(f api.Frac) string { return fmt.Sprintf("%v %x/%x", f.Neg, f.Num, f.Den) }

func toldDraws(l []api.Draw) string {
	s := ""
	for _, d := range l {
		s += fmt.Sprint(d.Kind, d.Lo, d.Hi, d.Values, toldFrac(d.P))
		for _, f := range d.Weights {
			s += " " + toldFrac(f)
		}
		s += "; "
	}
	return s
}

func toldAnswer(a api.Answer) string {
	s := ""
	for _, x := range a.Points {
		s += fmt.Sprint(x.Value, ": ", toldFrac(x.P), "; ")
	}
	return s + "stuck " + toldFrac(a.Stuck) + " lost " + toldFrac(a.Lost)
}

// toldKnots is knots one behind the other: a value, stuck, lost, or a draw and its kids; what is none of these is told in full.
func toldKnots(l []api.Knot) string {
	var s []string
	for _, k := range l {
		one := fmt.Sprintf("%+v", k)
		switch {
		case k.Draw >= 0 && k.End == (api.Outcome{}):
			one = fmt.Sprintf("draw %d:", k.Draw)
			for _, kid := range k.Kids {
				one += fmt.Sprint(" ", kid)
			}
		case k.Draw == -1 && len(k.Kids) == 0 && k.End.Kind == api.Valued:
			one = fmt.Sprint(k.End.Value)
		case k.Draw == -1 && len(k.Kids) == 0 && k.End == stuck():
			one = "stuck"
		case k.Draw == -1 && len(k.Kids) == 0 && k.End == lost():
			one = "lost"
		}
		s = append(s, one)
	}
	return strings.Join(s, "; ")
}

func told(d api.Diagram) string { return toldDraws(d.Draws) + "| " + toldKnots(d.Knots) }

func valued(v int) api.Outcome { return api.Outcome{Kind: api.Valued, Value: v} }
func stuck() api.Outcome       { return api.Outcome{Kind: api.Stuck} }
func lost() api.Outcome        { return api.Outcome{Kind: api.Lost} }

func ending(o api.Outcome) api.Knot                  { return api.Knot{Draw: -1, End: o} }
func end(v int) api.Knot                             { return ending(valued(v)) }
func fork(draw int, kids ...int) api.Knot            { return api.Knot{Draw: draw, Kids: kids} }
func flip(num, den int64) api.Draw                   { return api.Draw{Kind: api.Flip, P: over(num, den)} }
func ranged(lo, hi int) api.Draw                     { return api.Draw{Kind: api.Range, Lo: lo, Hi: hi} }
func knots(l ...api.Knot) []api.Knot                 { return l }
func diagram(l []api.Draw, k []api.Knot) api.Diagram { return api.Diagram{Draws: l, Knots: k} }

// pick has as many values as weights, 10, 11, ..
func pick(weights ...api.Frac) api.Draw {
	d := api.Draw{Kind: api.Pick, Weights: weights}
	for i := range weights {
		d.Values = append(d.Values, 10+i)
	}
	return d
}

// checks fails unless Check says this, and Eval and Count the same, with nothing beside an error.
func checks(t *testing.T, what string, want api.Errno, d api.Diagram) {
	t.Helper()
	e := chance.Check(d)
	o, f := chance.Eval(d, []int{1})
	a, g := chance.Count(d)
	if e != want || f != want || g != want {
		t.Errorf("%s: %d %d %d, not %d", what, e, f, g, want)
	}
	nothing := func(f api.Frac) bool { return rat(f).Sign() == 0 && !f.Neg }
	if want != api.OK && (o != api.Outcome{} || len(a.Points) > 0 || !nothing(a.Stuck) || !nothing(a.Lost)) {
		t.Errorf("%s: something beside an error: %v %v", what, o, a)
	}
}

// refused fails unless Compile refuses a program so, and tells nothing beside it.
func refused(t *testing.T, what string, want api.Errno, p api.Prog) {
	t.Helper()
	d, e := chance.Compile(p)
	if e != want || len(d.Draws) > 0 || len(d.Knots) > 0 {
		t.Errorf("%.300s: %d %v, not %d", what, e, d, want)
	}
}

// chances is how likely each outcome of a draw is; so there are as many.
func chances(d api.Draw) []*big.Rat {
	var l []*big.Rat
	switch d.Kind {
	case api.Flip:
		l = append(l, new(big.Rat).Sub(big.NewRat(1, 1), rat(d.P)), rat(d.P))
	case api.Range:
		for range d.Hi - d.Lo + 1 {
			l = append(l, big.NewRat(1, int64(d.Hi-d.Lo+1)))
		}
	case api.Pick:
		for _, f := range d.Weights {
			l = append(l, rat(f))
		}
	}
	return l
}

// allChoices gives each choice of outcomes that these draws can have.
func allChoices(draws []api.Draw, tell func(choices []int)) {
	choices := make([]int, len(draws))
	var from func(i int)
	from = func(i int) {
		if i == len(draws) {
			tell(choices)
			return
		}
		for k := range chances(draws[i]) {
			choices[i] = k
			from(i + 1)
		}
	}
	from(0)
}

// tree is a diagram that is not yet told, known by its text.
type tree struct {
	text string
	draw int
	kids []tree
	end  api.Outcome
}

// leastOf is the least diagram, as it is told, of what choices lead to: grown whole, without kids that are all the same.
func leastOf(draws []api.Draw, outcome func(choices []int) api.Outcome) []api.Knot {
	choices := make([]int, len(draws))
	var grown func(i int) tree
	grown = func(i int) tree {
		if i == len(draws) {
			o := outcome(choices)
			return tree{text: fmt.Sprint(o), draw: -1, end: o}
		}
		t := tree{draw: i, text: fmt.Sprint(i, "(")}
		forks := false
		for k := range chances(draws[i]) {
			choices[i] = k
			kid := grown(i + 1)
			t.kids = append(t.kids, kid)
			t.text += kid.text + " "
			forks = forks || kid.text != t.kids[0].text
		}
		t.text += ")"
		if !forks {
			return t.kids[0]
		}
		return t
	}
	var l []api.Knot
	places := map[string]int{}
	var tell func(t tree) int
	tell = func(t tree) int {
		if place, ok := places[t.text]; ok {
			return place
		}
		k := api.Knot{Draw: t.draw, End: t.end}
		for _, kid := range t.kids {
			k.Kids = append(k.Kids, tell(kid))
		}
		places[t.text] = len(l)
		l = append(l, k)
		return len(l) - 1
	}
	tell(grown(0))
	return l
}

// led is where choices lead: a knot is asked for its kid, or is the end.
func led(d api.Diagram, at int, choices []int) api.Outcome {
	k := d.Knots[at]
	if k.Draw < 0 {
		return k.End
	}
	outcome := 0
	for i := range k.Kids {
		if k.Draw < len(choices) && choices[k.Draw] == i {
			outcome = i
		}
	}
	return led(d, k.Kids[outcome], choices)
}

// counted is the sum over all ways from the root, each gone alone.
func counted(d api.Diagram) api.Answer {
	sums := map[api.Outcome]*big.Rat{lost(): new(big.Rat), stuck(): new(big.Rat)}
	var from func(at int, p *big.Rat)
	from = func(at int, p *big.Rat) {
		k := d.Knots[at]
		if k.Draw < 0 {
			if sums[k.End] == nil {
				sums[k.End] = new(big.Rat)
			}
			sums[k.End].Add(sums[k.End], p)
			return
		}
		for i, c := range chances(d.Draws[k.Draw]) {
			from(k.Kids[i], new(big.Rat).Mul(p, c))
		}
	}
	from(len(d.Knots)-1, big.NewRat(1, 1))
	return answerOf(sums)
}

func answerOf(sums map[api.Outcome]*big.Rat) api.Answer {
	a := api.Answer{Stuck: lowest(sums[stuck()]), Lost: lowest(sums[lost()])}
	for v := -api.MaxInt; v <= api.MaxInt; v++ {
		if p := sums[valued(v)]; p != nil && p.Sign() > 0 {
			a.Points = append(a.Points, api.Point{Value: v, P: lowest(p)})
		}
	}
	return a
}

// maker draws programs whose names may be.
type maker struct {
	*die
	defs    []api.Def
	visible []string
	levels  int
	fresh   int
}

func (m *maker) expr(levels int) api.Expr {
	kind := 1 + m.n(api.Mod+6)
	switch {
	case levels > 3 || kind == api.Number:
		if len(m.visible) == 0 || m.n(4) == 0 {
			return api.Expr{Op: api.Number, N: []int{0, 1, 2, 3, -1, -2, 4, 5, 999, 7}[m.n(10)]}
		}
		return api.Expr{Op: api.Name, Name: m.visible[m.n(len(m.visible))]}
	case (kind == api.Use || kind > api.Mod+3) && len(m.defs) > 0:
		d := m.defs[m.n(len(m.defs))]
		e := api.Expr{Op: api.Use, Name: d.Name}
		for range d.Params {
			e.Args = append(e.Args, m.expr(levels+1))
		}
		return e
	case kind <= api.Use || kind > api.Mod:
		return m.expr(4)
	case kind == api.Not:
		return api.Expr{Op: api.Not, Args: []api.Expr{m.expr(levels + 1)}}
	}
	return api.Expr{Op: kind, Args: []api.Expr{m.expr(levels + 1), m.expr(levels + 1)}}
}

func (m *maker) draw() api.Draw {
	switch m.n(4) {
	case 0:
		lo := m.n(5) - 2
		return ranged(lo, lo+m.n(4))
	case 1:
		sum := int64(0)
		var parts []int64
		for range 1 + m.n(4) {
			parts = append(parts, int64(m.n(4)))
			sum += parts[len(parts)-1]
		}
		if sum == 0 {
			parts[0], sum = 1, 1
		}
		d := api.Draw{Kind: api.Pick}
		for _, k := range parts {
			d.Values, d.Weights = append(d.Values, m.n(7)-3), append(d.Weights, over(k, sum))
		}
		return d
	}
	return flip(int64(m.n(4)), int64(3+m.n(3)))
}

// name is a new one, often one that was gone already.
func (m *maker) name() string {
	for {
		name := fmt.Sprint("v", m.n(4+m.fresh))
		if !slices.Contains(m.visible, name) {
			return name
		}
		m.fresh++
	}
}

func (m *maker) steps() []api.Stmt {
	outer := len(m.visible)
	m.levels++
	var l []api.Stmt
	for range m.n(5) {
		l = append(l, m.step())
	}
	m.levels--
	if m.levels > 0 {
		m.visible = m.visible[:outer]
	}
	return l
}

func (m *maker) step() api.Stmt {
	s := api.Stmt{Kind: []int{api.Let, api.Roll, api.Roll, api.Roll, api.Set, api.Set, api.Again, api.If, api.If, api.Repeat, api.Observe}[m.n(11)]}
	if m.levels > 3 && (s.Kind == api.If || s.Kind == api.Repeat) || len(m.visible) == 0 && (s.Kind == api.Set || s.Kind == api.Again) {
		s.Kind = api.Roll
	}
	switch s.Kind {
	case api.Let:
		s.Expr, s.Name = m.expr(0), m.name()
		m.visible = append(m.visible, s.Name)
	case api.Roll:
		s.Draw, s.Name = m.draw(), m.name()
		m.visible = append(m.visible, s.Name)
	case api.Set:
		s.Name, s.Expr = m.visible[m.n(len(m.visible))], m.expr(0)
	case api.Again:
		s.Name, s.Draw = m.visible[m.n(len(m.visible))], m.draw()
	case api.If:
		s.Expr, s.Body, s.Else = m.expr(1), m.steps(), m.steps()
	case api.Repeat:
		s.N, s.Body = m.n(4), m.steps()
	case api.Observe:
		s.Expr = api.Expr{Op: api.Or, Args: []api.Expr{m.expr(1), m.expr(4)}}
	}
	return s
}

// body begins with draws, so that there is something to hang on.
func (m *maker) body(draws int, params ...string) []api.Stmt {
	m.visible, m.levels, m.fresh = params, 0, 0
	var l []api.Stmt
	for range draws {
		l = append(l, api.Stmt{Kind: api.Roll, Draw: m.draw(), Name: m.name()})
		m.visible = append(m.visible, l[len(l)-1].Name)
	}
	l = append(l, m.steps()...)
	sum := m.expr(2)
	for _, name := range m.visible {
		if m.n(2) == 0 {
			sum = api.Expr{Op: []int{api.Add, api.Sub, api.Mul, api.Div}[m.n(4)], Args: []api.Expr{sum, {Op: api.Name, Name: name}}}
		}
	}
	return append(l, api.Stmt{Kind: api.Return, Expr: sum})
}

func made(d *die) api.Prog {
	m := maker{die: d}
	for i := range d.n(4) {
		f := api.Def{Name: fmt.Sprint("f", i), Params: []string{"v0", "p", "v1"}[:d.n(4)]}
		f.Body = m.body(d.n(2), slices.Clone(f.Params)...)
		m.defs = append(m.defs, f)
	}
	return api.Prog{Defs: m.defs, Body: m.body(1 + d.n(4))}
}

// drawn is a diagram that may be, mostly not the least one: with knots that are alike, or to which nothing leads, and forks whose kids are the same.
func drawn(d *die) api.Diagram {
	m := maker{die: d}
	var g api.Diagram
	for range d.n(6) {
		g.Draws = append(g.Draws, m.draw())
	}
	for range 1 + d.n(3) {
		g.Knots = append(g.Knots, ending([]api.Outcome{valued(d.n(3)), valued(-999), valued(999), stuck(), lost()}[d.n(5)]))
	}
	for range d.n(12) {
		if len(g.Draws) == 0 || d.n(6) == 0 {
			g.Knots = append(g.Knots, end(d.n(5)-2))
			continue
		}
		k := api.Knot{Draw: d.n(len(g.Draws))}
		var behind []int
		for at, kid := range g.Knots {
			if kid.Draw < 0 || kid.Draw > k.Draw {
				behind = append(behind, at)
			}
		}
		for range chances(g.Draws[k.Draw]) {
			k.Kids = append(k.Kids, behind[len(behind)-1-d.n(min(len(behind), 4))])
		}
		g.Knots = append(g.Knots, k)
	}
	return g
}
