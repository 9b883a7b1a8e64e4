package script

import (
	"strconv"
	"strings"

	"augur/api"
	"augur/nat"
)

// writer gathers the tokens of a program. What is too much for a text is known when all of it was gone through: so a level too deep comes behind all that.
type writer struct {
	tokens          []string
	bytes           int
	levels, deepest int
	tooMany         bool
}

// write is the text of a program of the right form.
func write(p api.Prog) (string, api.Errno) {
	var w writer
	w.program(p)
	if w.tooMany || w.bytes > api.MaxText {
		return "", api.ErrLimit
	}
	if w.deepest > api.MaxNest {
		return "", api.ErrDeep
	}
	return strings.Join(w.tokens, " "), api.OK
}

// put keeps no more than a text may have.
func (w *writer) put(tokens ...string) {
	for _, token := range tokens {
		if w.bytes > 0 {
			w.bytes++
		}
		w.bytes += len(token)
		if w.bytes <= api.MaxText {
			w.tokens = append(w.tokens, token)
		}
	}
}

func (w *writer) atMost(count, most int) {
	w.tooMany = w.tooMany || count > most
}

func (w *writer) deeper() {
	w.levels++
	w.deepest = max(w.deepest, w.levels)
}

func (w *writer) higher() {
	w.levels--
}

func (w *writer) program(p api.Prog) {
	w.atMost(len(p.Defs), api.MaxDefs)
	for _, d := range p.Defs {
		w.function(d)
	}
	w.steps(p.Body)
}

func (w *writer) function(d api.Def) {
	w.atMost(len(d.Params), api.MaxParams)
	w.put("fn", d.Name, "(")
	for i, name := range d.Params {
		w.comma(i)
		w.put(name)
	}
	w.put(")")
	w.block(d.Body)
}

// comma goes ahead of all things of a list but the first.
func (w *writer) comma(i int) {
	if i > 0 {
		w.put(",")
	}
}

func (w *writer) block(l []api.Stmt) {
	w.put("{")
	w.deeper()
	w.steps(l)
	w.higher()
	w.put("}")
}

func (w *writer) steps(l []api.Stmt) {
	for _, s := range l {
		w.step(s)
	}
}

func (w *writer) step(s api.Stmt) {
	switch s.Kind {
	case api.Let:
		w.put("let", s.Name, "=")
		w.exprAndEnd(s.Expr)
	case api.Roll:
		w.put("let", s.Name, "~")
		w.drawAndEnd(s.Draw)
	case api.Set:
		w.put(s.Name, "=")
		w.exprAndEnd(s.Expr)
	case api.Again:
		w.put(s.Name, "~")
		w.drawAndEnd(s.Draw)
	case api.If:
		w.choice(s)
	case api.Repeat:
		w.atMost(s.N, api.MaxRepeat)
		w.put("repeat", strconv.Itoa(s.N))
		w.block(s.Body)
	case api.Observe:
		w.put("observe")
		w.exprAndEnd(s.Expr)
	case api.Return:
		w.put("return")
		w.exprAndEnd(s.Expr)
	}
}

func (w *writer) choice(s api.Stmt) {
	w.put("if")
	w.expr(s.Expr, loosest)
	w.block(s.Body)
	if len(s.Else) > 0 {
		w.put("else")
		w.block(s.Else)
	}
}

func (w *writer) drawAndEnd(d api.Draw) {
	switch d.Kind {
	case api.Flip:
		w.put("flip")
		w.part(d.P)
	case api.Range:
		w.put("range")
		w.whole(d.Lo)
		w.whole(d.Hi)
	case api.Pick:
		w.pick(d)
	}
	w.put(";")
}

func (w *writer) pick(d api.Draw) {
	w.atMost(len(d.Values), api.MaxPick)
	w.put("pick", "{")
	for i, value := range d.Values {
		w.comma(i)
		w.whole(value)
		w.put(":")
		w.part(d.Weights[i])
	}
	w.put("}")
}

// part tells a whole PART by its one number.
func (w *writer) part(f api.Frac) {
	w.natural(f.Num)
	if nat.Cmp(f.Den, nat.Of(1)) != 0 {
		w.put("/")
		w.natural(f.Den)
	}
}

// natural looks at the bytes first, of which there are fewer than digits: a number of very many digits takes long to be told.
func (w *writer) natural(n api.Nat) {
	w.atMost(len(n), api.MaxDigits)
	if len(n) > api.MaxDigits {
		return
	}
	digits := nat.Text(n)
	w.atMost(len(digits), api.MaxDigits)
	w.put(digits)
}

func (w *writer) whole(n int) {
	if n < 0 {
		w.put("-", strconv.Itoa(-n))
		return
	}
	w.put(strconv.Itoa(n))
}

func (w *writer) exprAndEnd(e api.Expr) {
	w.expr(e, loosest)
	w.put(";")
}

// expr puts brackets round what is looser than a tier.
func (w *writer) expr(e api.Expr, tier int) {
	o, ok := operatorOf(e.Op)
	switch {
	case !ok:
		w.atom(e)
	case o.tier < tier:
		w.put("(")
		w.deeper()
		w.operation(e, o)
		w.higher()
		w.put(")")
	default:
		w.operation(e, o)
	}
}

func (w *writer) operation(e api.Expr, o operator) {
	if o.op == api.Not {
		w.put(o.sign)
		w.deeper()
		w.expr(e.Args[0], o.tier)
		w.higher()
		return
	}
	w.expr(e.Args[0], leftTier(o.tier))
	w.put(o.sign)
	w.expr(e.Args[1], o.tier+1)
}

func (w *writer) atom(e api.Expr) {
	switch e.Op {
	case api.Number:
		w.whole(e.N)
	case api.Name:
		w.put(e.Name)
	case api.Use:
		w.use(e)
	}
}

func (w *writer) use(e api.Expr) {
	w.atMost(len(e.Args), api.MaxParams)
	w.put(e.Name, "(")
	w.deeper()
	for i, x := range e.Args {
		w.comma(i)
		w.expr(x, loosest)
	}
	w.higher()
	w.put(")")
}
