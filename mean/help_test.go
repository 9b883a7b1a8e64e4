package mean_test

import (
	"fmt"
	"math/big"
	"slices"
	"strings"
	"testing"

	"augur/api"
	"augur/mean"
	"augur/script"
)

// die gives numbers that look drawn, the same each time.
type die uint64

func (d *die) n(most int) int {
	*d = *d*6364136223846793005 + 1442695040888963407
	return int(uint64(*d>>33) % uint64(most))
}

// over is num/den in lowest terms.
func over(num, den int64) api.Frac { return lowest(big.NewRat(num, den)) }

// lowest is what of a number must come out (P4).
func lowest(r *big.Rat) api.Frac {
	return api.Frac{Neg: r.Sign() < 0, Num: api.Nat(r.Num().Bytes()), Den: api.Nat(r.Denom().Bytes())}
}

func rat(f api.Frac) *big.Rat {
	num, den := new(big.Int).SetBytes([]byte(f.Num)), new(big.Int).SetBytes([]byte(f.Den))
	if den.Sign() == 0 {
		return new(big.Rat)
	}
	if f.Neg {
		num.Neg(num)
	}
	return new(big.Rat).SetFrac(num, den)
}

// odd is a number in any form.
func odd(d *die, r *big.Rat) api.Frac {
	if r.Sign() == 0 {
		return []api.Frac{{}, {Neg: true}, {Neg: true, Den: "\x05"}, {Num: "\x03", Den: "\x00"}, {Num: "\x00\x00", Den: "\x01"}}[d.n(5)]
	}
	by := big.NewInt(int64(1 + d.n(6)))
	ahead := strings.Repeat("\x00", d.n(3))
	return api.Frac{Neg: r.Sign() < 0, Num: api.Nat(ahead + string(new(big.Int).Mul(new(big.Int).Abs(r.Num()), by).Bytes())), Den: api.Nat(string(new(big.Int).Mul(r.Denom(), by).Bytes()))}
}

// parsed is what is read of a text that is right.
func parsed(t *testing.T, text string) api.Prog {
	t.Helper()
	p, e := script.Parse(text)
	if e != api.OK {
		t.Fatalf("%.300q: error %d", text, e)
	}
	return p
}

// toldFrac tells the bytes of a number: what is not in lowest terms is told otherwise than what is.
func toldFrac(f api.Frac) string { return fmt.Sprintf("%v %x/%x", f.Neg, f.Num, f.Den) }

func toldDraw(d api.Draw) string {
	s := fmt.Sprint(d.Kind, d.Lo, d.Hi, d.Values, toldFrac(d.P))
	for _, f := range d.Weights {
		s += " " + toldFrac(f)
	}
	return s
}

func toldDraws(l []api.Draw) string {
	s := ""
	for _, d := range l {
		s += toldDraw(d) + "; "
	}
	return s
}

func toldPoints(l []api.Point) string {
	s := ""
	for _, x := range l {
		s += fmt.Sprint(x.Value, ": ", toldFrac(x.P), "; ")
	}
	return s
}

func toldAnswer(a api.Answer) string {
	return toldPoints(a.Points) + "stuck " + toldFrac(a.Stuck) + " lost " + toldFrac(a.Lost)
}

// toldProg is a program, field by field.
func toldProg(p api.Prog) string {
	s := ""
	for _, d := range p.Defs {
		s += fmt.Sprintf("fn %q %q [%s]\n", d.Name, d.Params, toldSteps(d.Body))
	}
	return s + toldSteps(p.Body)
}

func toldSteps(l []api.Stmt) string {
	s := ""
	for _, x := range l {
		s += fmt.Sprintf("(%d %q %d %s %s {%s} {%s})", x.Kind, x.Name, x.N, toldExpr(x.Expr), toldDraw(x.Draw), toldSteps(x.Body), toldSteps(x.Else))
	}
	return s
}

func toldExpr(e api.Expr) string {
	s := fmt.Sprintf("<%d %d %q", e.Op, e.N, e.Name)
	for _, x := range e.Args {
		s += toldExpr(x)
	}
	return s + ">"
}

// answerOf is an answer by its texts: "3 1/4" is a point.
func answerOf(t *testing.T, stuck, lost string, points ...string) api.Answer {
	t.Helper()
	number := func(s string) api.Frac {
		r, ok := new(big.Rat).SetString(s)
		if !ok {
			t.Fatal(s)
		}
		return lowest(r)
	}
	a := api.Answer{Stuck: number(stuck), Lost: number(lost)}
	for _, s := range points {
		var x api.Point
		var p string
		if _, err := fmt.Sscan(s, &x.Value, &p); err != nil {
			t.Fatal(s)
		}
		x.P = number(p)
		a.Points = append(a.Points, x)
	}
	return a
}

// runs fails unless Run of the text is that.
func runs(t *testing.T, text string, want api.Answer) {
	t.Helper()
	a, e := mean.Run(parsed(t, text))
	if e != api.OK || toldAnswer(a) != toldAnswer(want) {
		t.Errorf("%.300q: %d %s, not %s", text, e, toldAnswer(a), toldAnswer(want))
	}
}

func valued(v int) api.Outcome { return api.Outcome{Kind: api.Valued, Value: v} }
func stuck() api.Outcome       { return api.Outcome{Kind: api.Stuck} }
func lost() api.Outcome        { return api.Outcome{Kind: api.Lost} }

// goes fails unless One of the text with these choices is that.
func goes(t *testing.T, text string, want api.Outcome, choices ...int) {
	t.Helper()
	if o, e := mean.One(parsed(t, text), choices); e != api.OK || o != want {
		t.Errorf("%.300q %v: %d %v, not %v", text, choices, e, o, want)
	}
}

// refused fails unless all that is asked of a program is refused so, and nothing is told beside it.
func refused(t *testing.T, what string, want api.Errno, p api.Prog) {
	t.Helper()
	l, e := mean.Draws(p)
	o, f := mean.One(p, []int{1})
	a, g := mean.Run(p)
	if e != want || f != want || g != want {
		t.Errorf("%s: %d %d %d, not %d", what, e, f, g, want)
	}
	nothing := func(f api.Frac) bool { return rat(f).Sign() == 0 && !f.Neg }
	if len(l) > 0 || o != (api.Outcome{}) || len(a.Points) > 0 || !nothing(a.Stuck) || !nothing(a.Lost) {
		t.Errorf("%s: something beside an error: %v %v %v", what, l, o, a)
	}
}

// guard is that a slot is true, or that it is not.
type guard struct {
	slot   int
	isTrue bool
}

// act is one act of a program that is all written out: it is done if its guards hold.
type act struct {
	guards  []guard
	op      int // of an expression; 0: a draw; -1: an observe; -2: a slot is taken over
	to      int
	a, b    int // slots; a is the number of a draw, the value of a number
	outcome []int
}

// sheet is a program as acts on slots, one behind the other, without blocks and names.
type sheet struct {
	prog   api.Prog
	acts   []act
	guards []guard
	names  []string // visible ones, and their slots
	slots  []int
	used   int
	draws  []api.Draw
	end    int // the slot of its value
}

func sheetOf(p api.Prog) *sheet {
	s := &sheet{prog: p}
	s.end = s.body(p.Body)
	return s
}

func (s *sheet) put(a act) int {
	a.guards, a.to = slices.Clone(s.guards), s.used
	s.used++
	s.acts = append(s.acts, a)
	return a.to
}

// over writes a slot again.
func (s *sheet) over(slot, from int) {
	s.put(act{op: -2, a: from})
	s.acts[len(s.acts)-1].to = slot
}

func (s *sheet) slot(name string) int { return s.slots[slices.Index(s.names, name)] }

func (s *sheet) body(l []api.Stmt) int {
	for _, x := range l[:len(l)-1] {
		s.step(x)
	}
	return s.expr(l[len(l)-1].Expr)
}

func (s *sheet) block(l []api.Stmt, more ...guard) {
	names, guards := len(s.names), len(s.guards)
	s.guards = append(s.guards, more...)
	for _, x := range l {
		s.step(x)
	}
	s.names, s.slots, s.guards = s.names[:names], s.slots[:names], s.guards[:guards]
}

func (s *sheet) bind(name string, from int) {
	slot := s.used
	s.used++
	s.over(slot, from)
	s.names, s.slots = append(s.names, name), append(s.slots, slot)
}

func (s *sheet) step(x api.Stmt) {
	switch x.Kind {
	case api.Let:
		s.bind(x.Name, s.expr(x.Expr))
	case api.Roll:
		s.bind(x.Name, s.draw(x.Draw))
	case api.Set:
		s.over(s.slot(x.Name), s.expr(x.Expr))
	case api.Again:
		s.over(s.slot(x.Name), s.draw(x.Draw))
	case api.Observe:
		s.put(act{op: -1, a: s.expr(x.Expr)})
	case api.Repeat:
		for range x.N {
			s.block(x.Body)
		}
	case api.If:
		slot := s.expr(x.Expr)
		s.block(x.Body, guard{slot, true})
		s.block(x.Else, guard{slot, false})
	}
}

func outcomes(d api.Draw) []int {
	var l []int
	switch d.Kind {
	case api.Flip:
		return []int{0, 1}
	case api.Pick:
		return d.Values
	}
	for v := d.Lo; v <= d.Hi; v++ {
		l = append(l, v)
	}
	return l
}

func chances(d api.Draw) []*big.Rat {
	var l []*big.Rat
	for i, v := range outcomes(d) {
		switch d.Kind {
		case api.Flip:
			p := rat(d.P)
			if v == 0 {
				p.Sub(big.NewRat(1, 1), p)
			}
			l = append(l, p)
		case api.Range:
			l = append(l, big.NewRat(1, int64(d.Hi-d.Lo+1)))
		case api.Pick:
			l = append(l, rat(d.Weights[i]))
		}
	}
	return l
}

func (s *sheet) draw(d api.Draw) int {
	s.draws = append(s.draws, d)
	return s.put(act{a: len(s.draws) - 1, outcome: outcomes(d)})
}

func (s *sheet) expr(e api.Expr) int {
	if e.Op == api.Number {
		return s.put(act{op: e.Op, a: e.N})
	}
	if e.Op == api.Name {
		return s.put(act{op: -2, a: s.slot(e.Name)})
	}
	var l []int
	for _, x := range e.Args {
		l = append(l, s.expr(x))
	}
	if e.Op == api.Use {
		names, slots := s.names, s.slots
		s.names, s.slots = nil, nil
		f := s.prog.Defs[slices.IndexFunc(s.prog.Defs, func(d api.Def) bool { return d.Name == e.Name })]
		for i, name := range f.Params {
			s.bind(name, l[i])
		}
		v := s.body(f.Body)
		s.names, s.slots = names, slots
		return v
	}
	return s.put(act{op: e.Op, a: l[0], b: l[len(l)-1]})
}

// outcome is that of the way which these choices tell, one for each draw.
func (s *sheet) outcome(choices []int) api.Outcome {
	at := make([]int, s.used)
	for _, x := range s.acts {
		if slices.ContainsFunc(x.guards, func(g guard) bool { return at[g.slot] != 0 != g.isTrue }) {
			continue
		}
		switch x.op {
		case 0:
			at[x.to] = x.outcome[choices[x.a]]
		case -1:
			if at[x.a] == 0 {
				return lost()
			}
		case -2:
			at[x.to] = at[x.a]
		case api.Number:
			at[x.to] = x.a
		default:
			v, ok := result(x.op, at[x.a], at[x.b])
			if !ok {
				return stuck()
			}
			at[x.to] = v
		}
	}
	return valued(at[s.end])
}

// result reckons with big numbers; quotients by their signs.
func result(op, a, b int) (int, bool) {
	x, y := big.NewInt(int64(a)), big.NewInt(int64(b))
	z := new(big.Int)
	is := map[int]bool{api.Or: a != 0 || b != 0, api.And: a != 0 && b != 0, api.Not: a == 0, api.Eq: x.Cmp(y) == 0, api.Ne: x.Cmp(y) != 0, api.Lt: x.Cmp(y) < 0, api.Le: x.Cmp(y) <= 0, api.Gt: x.Cmp(y) > 0, api.Ge: x.Cmp(y) >= 0}
	if isTrue, ok := is[op]; ok {
		if isTrue {
			return 1, true
		}
		return 0, true
	}
	switch op {
	case api.Add:
		z.Add(x, y)
	case api.Sub:
		z.Sub(x, y)
	case api.Mul:
		z.Mul(x, y)
	default:
		if b == 0 {
			return 0, false
		}
		z.Div(z.Abs(x), new(big.Int).Abs(y))
		z.Mul(z, big.NewInt(int64(x.Sign()*y.Sign())))
		if op == api.Mod {
			z.Sub(x, z.Mul(z, y))
		}
	}
	return int(z.Int64()), z.CmpAbs(big.NewInt(api.MaxInt)) <= 0
}

// all gives each of the ways that draws can have, and how likely it is.
func (s *sheet) all(tell func(choices []int, p *big.Rat)) {
	choices := make([]int, len(s.draws))
	var from func(i int, p *big.Rat)
	from = func(i int, p *big.Rat) {
		if i == len(choices) {
			tell(choices, p)
			return
		}
		for k, c := range chances(s.draws[i]) {
			choices[i] = k
			from(i+1, new(big.Rat).Mul(p, c))
		}
	}
	from(0, big.NewRat(1, 1))
}

// answer is the sum over all ways.
func (s *sheet) answer() api.Answer {
	sums := map[api.Outcome]*big.Rat{lost(): new(big.Rat), stuck(): new(big.Rat)}
	s.all(func(choices []int, p *big.Rat) {
		o := s.outcome(choices)
		if sums[o] == nil {
			sums[o] = new(big.Rat)
		}
		sums[o].Add(sums[o], p)
	})
	a := api.Answer{Stuck: lowest(sums[stuck()]), Lost: lowest(sums[lost()])}
	for v := -api.MaxInt; v <= api.MaxInt; v++ {
		if p := sums[valued(v)]; p != nil && p.Sign() > 0 {
			a.Points = append(a.Points, api.Point{Value: v, P: lowest(p)})
		}
	}
	return a
}

// maker draws programs whose names may be.
type maker struct {
	*die
	defs    []api.Def
	visible []string
	levels  int
	fresh   int
}

func (m *maker) expr(levels int) api.Expr {
	kind := 1 + m.n(api.Mod+6)
	switch {
	case levels > 3 || kind == api.Number:
		if len(m.visible) == 0 || m.n(3) == 0 {
			return api.Expr{Op: api.Number, N: []int{0, 1, 2, 3, -1, -2, 40, -999, 999, 7}[m.n(10)]}
		}
		return api.Expr{Op: api.Name, Name: m.visible[m.n(len(m.visible))]}
	case kind == api.Use && len(m.defs) > 0:
		d := m.defs[m.n(len(m.defs))]
		e := api.Expr{Op: api.Use, Name: d.Name}
		for range d.Params {
			e.Args = append(e.Args, m.expr(levels+1))
		}
		return e
	case kind <= api.Use || kind > api.Mod:
		return m.expr(4)
	case kind == api.Not:
		return api.Expr{Op: api.Not, Args: []api.Expr{m.expr(levels + 1)}}
	}
	return api.Expr{Op: kind, Args: []api.Expr{m.expr(levels + 1), m.expr(levels + 1)}}
}

func (m *maker) draw() api.Draw {
	switch m.n(4) {
	case 0:
		lo := m.n(5) - 2
		return api.Draw{Kind: api.Range, Lo: lo, Hi: lo + m.n(4)}
	case 1:
		d := api.Draw{Kind: api.Pick}
		sum := int64(0)
		var parts []int64
		for range 1 + m.n(4) {
			parts = append(parts, int64(m.n(4)))
			sum += parts[len(parts)-1]
		}
		if sum == 0 {
			parts[0], sum = 1, 1
		}
		for _, k := range parts {
			d.Values, d.Weights = append(d.Values, m.n(7)-3), append(d.Weights, over(k, sum))
		}
		return d
	}
	return api.Draw{Kind: api.Flip, P: over(int64(m.n(4)), int64(3+m.n(3)))}
}

// name is a new one, often one that was gone already.
func (m *maker) name() string {
	for {
		name := fmt.Sprint("v", m.n(4+m.fresh))
		if !slices.Contains(m.visible, name) {
			return name
		}
		m.fresh++
	}
}

func (m *maker) steps() []api.Stmt {
	outer := len(m.visible)
	m.levels++
	var l []api.Stmt
	for range m.n(5) {
		s := api.Stmt{Kind: 1 + m.n(7)}
		if m.levels > 3 && (s.Kind == api.If || s.Kind == api.Repeat) || len(m.visible) == 0 && (s.Kind == api.Set || s.Kind == api.Again) {
			s.Kind = api.Let
		}
		switch s.Kind {
		case api.Let:
			s.Expr, s.Name = m.expr(0), m.name()
			m.visible = append(m.visible, s.Name)
		case api.Roll:
			s.Draw, s.Name = m.draw(), m.name()
			m.visible = append(m.visible, s.Name)
		case api.Set:
			s.Name, s.Expr = m.visible[m.n(len(m.visible))], m.expr(0)
		case api.Again:
			s.Name, s.Draw = m.visible[m.n(len(m.visible))], m.draw()
		case api.If:
			s.Expr, s.Body, s.Else = m.expr(1), m.steps(), m.steps()
		case api.Repeat:
			s.N, s.Body = m.n(4), m.steps()
		case api.Observe:
			s.Expr = m.expr(1)
			if m.n(2) == 0 {
				s.Expr = api.Expr{Op: api.Or, Args: []api.Expr{s.Expr, m.expr(4)}}
			}
		}
		l = append(l, s)
	}
	m.levels--
	if m.levels > 0 {
		m.visible = m.visible[:outer]
	}
	return l
}

func (m *maker) body(params ...string) []api.Stmt {
	m.visible, m.levels, m.fresh = params, 0, 0
	l := m.steps()
	return append(l, api.Stmt{Kind: api.Return, Expr: m.expr(0)})
}

func made(d *die) api.Prog {
	m := maker{die: d}
	for i := range d.n(4) {
		f := api.Def{Name: fmt.Sprint("f", i), Params: []string{"v0", "p", "v1"}[:d.n(4)]}
		f.Body = m.body(slices.Clone(f.Params)...)
		m.defs = append(m.defs, f)
	}
	return api.Prog{Defs: m.defs, Body: m.body()}
}
