package script

import (
	"strconv"
	"strings"

	"augur/api"
	"augur/frac"
	"augur/nat"
)

// gaveUp is what a reader panics with: so what it found wrong is known from any other panic.
type gaveUp struct {
	why api.Errno
}

// reader reads a program. All its methods give up at the first fault.
type reader struct {
	tokens
	levels int
}

// read is the program of a text, or the first fault.
func read(text string) (p api.Prog, e api.Errno) {
	defer func() {
		if caught := recover(); caught != nil {
			fault, ok := caught.(gaveUp)
			if !ok {
				panic(caught)
			}
			p, e = api.Prog{}, fault.why
		}
	}()
	r := reader{tokens: tokens{rest: text}}
	return r.program(), api.OK
}

func (r *reader) giveUpIf(wrong bool, why api.Errno) {
	if wrong {
		panic(gaveUp{why})
	}
}

// must gives up at a token that can't stand where it stands, and at the end where one should be.
func (r *reader) must(mayStand bool, token string) {
	r.giveUpIf(!mayStand && token == "", api.ErrShort)
	r.giveUpIf(!mayStand, api.ErrWord)
}

func (r *reader) sign(sign string) {
	token := r.next()
	r.must(token == sign, token)
}

// skip goes past a token, if it stands next.
func (r *reader) skip(sign string) bool {
	if r.look() != sign {
		return false
	}
	r.next()
	return true
}

// deeper begins a level, with the token that was read last.
func (r *reader) deeper() {
	r.levels++
	r.giveUpIf(r.levels > api.MaxNest, api.ErrDeep)
}

func (r *reader) higher() {
	r.levels--
}

// list reads one thing or more, with commas between, up to its end.
func (r *reader) list(end string, most int, one func()) {
	one()
	for count := 1; r.look() == ","; count++ {
		r.giveUpIf(count == most, api.ErrLimit)
		r.next()
		one()
	}
	r.sign(end)
}

// listOrNone reads a list of parameters or arguments behind its `(`.
func (r *reader) listOrNone(one func()) {
	if !r.skip(")") {
		r.list(")", api.MaxParams, one)
	}
}

func (r *reader) program() api.Prog {
	var p api.Prog
	for r.look() == "fn" {
		r.giveUpIf(len(p.Defs) == api.MaxDefs, api.ErrLimit)
		p.Defs = append(p.Defs, r.function())
	}
	p.Body = r.stepsAndReturn()
	r.giveUpIf(r.look() != "", api.ErrWord)
	return p
}

func (r *reader) function() api.Def {
	r.sign("fn")
	d := api.Def{Name: r.name(r.next())}
	r.sign("(")
	r.listOrNone(func() { d.Params = append(d.Params, r.name(r.next())) })
	r.sign("{")
	r.deeper()
	d.Body = r.stepsAndReturn()
	r.sign("}")
	r.higher()
	return d
}

// name keeps nothing of the text.
func (r *reader) name(token string) string {
	r.must(isName(token), token)
	return strings.Clone(token)
}

func (r *reader) stepsAndReturn() []api.Stmt {
	l := r.steps("return")
	r.sign("return")
	return append(l, api.Stmt{Kind: api.Return, Expr: r.exprAndEnd()})
}

// steps reads all that stand ahead of a token.
func (r *reader) steps(end string) []api.Stmt {
	var l []api.Stmt
	for r.look() != end {
		l = append(l, r.step())
	}
	return l
}

func (r *reader) block() []api.Stmt {
	r.sign("{")
	r.deeper()
	l := r.steps("}")
	r.sign("}")
	r.higher()
	return l
}

func (r *reader) step() api.Stmt {
	switch token := r.next(); token {
	case "let":
		return r.giving(r.next(), api.Let, api.Roll)
	case "if":
		return r.choice()
	case "repeat":
		times := r.small(r.next(), api.MaxRepeat)
		return api.Stmt{Kind: api.Repeat, N: times, Body: r.block()}
	case "observe":
		return api.Stmt{Kind: api.Observe, Expr: r.exprAndEnd()}
	default:
		return r.giving(token, api.Set, api.Again)
	}
}

// giving reads a step that gives the name a value or a draw's outcome, from the name on.
func (r *reader) giving(token string, byExpr, byDraw int) api.Stmt {
	s := api.Stmt{Name: r.name(token)}
	if r.skip("~") {
		s.Kind, s.Draw = byDraw, r.draw()
		r.sign(";")
		return s
	}
	r.sign("=")
	s.Kind, s.Expr = byExpr, r.exprAndEnd()
	return s
}

func (r *reader) choice() api.Stmt {
	s := api.Stmt{Kind: api.If, Expr: r.expr(loosest)}
	s.Body = r.block()
	if r.skip("else") {
		s.Else = r.block()
	}
	return s
}

func (r *reader) draw() api.Draw {
	switch token := r.next(); token {
	case "flip":
		return api.Draw{Kind: api.Flip, P: r.part()}
	case "range":
		low := r.whole(r.next())
		return api.Draw{Kind: api.Range, Lo: low, Hi: r.whole(r.next())}
	case "pick":
		return r.pick()
	default:
		r.must(false, token)
		return api.Draw{}
	}
}

func (r *reader) pick() api.Draw {
	d := api.Draw{Kind: api.Pick}
	r.sign("{")
	r.list("}", api.MaxPick, func() {
		d.Values = append(d.Values, r.whole(r.next()))
		r.sign(":")
		d.Weights = append(d.Weights, r.part())
	})
	return d
}

// part is a PART, in lowest terms.
func (r *reader) part() api.Frac {
	num, den := r.natural(), nat.Of(1)
	if r.skip("/") {
		den = r.natural()
		r.giveUpIf(nat.Cmp(den, nat.Of(0)) == 0, api.ErrZero)
	}
	return frac.Make(false, num, den)
}

func (r *reader) natural() api.Nat {
	token := r.next()
	r.must(isNumber(token), token)
	n, e := nat.Parse(token)
	r.giveUpIf(e != api.OK, e)
	return n
}

// whole is an INT, from its first token on.
func (r *reader) whole(token string) int {
	if token == "-" {
		return -r.small(r.next(), api.MaxInt)
	}
	return r.small(token, api.MaxInt)
}

func (r *reader) small(token string, most int) int {
	r.must(isNumber(token), token)
	n, err := strconv.Atoi(token)
	r.giveUpIf(err != nil || n > most, api.ErrLimit)
	return n
}

func (r *reader) exprAndEnd() api.Expr {
	e := r.expr(loosest)
	r.sign(";")
	return e
}

// expr reads an expression of a tier or a tighter one.
func (r *reader) expr(tier int) api.Expr {
	switch tier {
	case notTier:
		return r.negation()
	case atomTier:
		return r.atom()
	}
	left := r.expr(tier + 1)
	for {
		o, ok := operatorAt(r.look(), tier)
		if !ok {
			return left
		}
		r.next()
		left = api.Expr{Op: o.op, Args: []api.Expr{left, r.expr(tier + 1)}}
		if leftTier(tier) > tier {
			return left
		}
	}
}

func (r *reader) negation() api.Expr {
	if !r.skip("not") {
		return r.expr(notTier + 1)
	}
	r.deeper()
	e := r.expr(notTier)
	r.higher()
	return api.Expr{Op: api.Not, Args: []api.Expr{e}}
}

func (r *reader) atom() api.Expr {
	token := r.next()
	switch {
	case token == "(":
		return r.inBrackets()
	case token == "-" || isNumber(token):
		return api.Expr{Op: api.Number, N: r.whole(token)}
	}
	name := r.name(token)
	if r.skip("(") {
		return api.Expr{Op: api.Use, Name: name, Args: r.arguments()}
	}
	return api.Expr{Op: api.Name, Name: name}
}

func (r *reader) inBrackets() api.Expr {
	r.deeper()
	e := r.expr(loosest)
	r.sign(")")
	r.higher()
	return e
}

func (r *reader) arguments() []api.Expr {
	var l []api.Expr
	r.deeper()
	r.listOrNone(func() { l = append(l, r.expr(loosest)) })
	r.higher()
	return l
}
