package script

import (
	"slices"

	"augur/api"
	"augur/frac"
)

// isProg says whether Parse gives such a program: in it there may be more, and longer and deeper, than a text may have.
func isProg(p api.Prog) bool {
	for _, d := range p.Defs {
		if !isName(d.Name) || !all(d.Params, isName) || !isBody(d.Body) {
			return false
		}
	}
	return isBody(p.Body)
}

func all[T any](l []T, is func(T) bool) bool {
	return !slices.ContainsFunc(l, func(x T) bool { return !is(x) })
}

// isBody says whether steps are those of a function or program: they end with their one return.
func isBody(l []api.Stmt) bool {
	end := len(l) - 1
	return end >= 0 && isBlock(l[:end]) && l[end].Kind == api.Return && isStep(l[end])
}

func isBlock(l []api.Stmt) bool {
	return all(l, func(s api.Stmt) bool { return s.Kind != api.Return && isStep(s) })
}

// fields is which ones a kind of step has something in. Those that have blocks may have none in them.
type fields struct {
	name, number, expr, draw, body, otherwise bool
}

// fieldsOf is false, if there is no such kind.
func fieldsOf(kind int) (fields, bool) {
	switch kind {
	case api.Let, api.Set:
		return fields{name: true, expr: true}, true
	case api.Roll, api.Again:
		return fields{name: true, draw: true}, true
	case api.If:
		return fields{expr: true, body: true, otherwise: true}, true
	case api.Repeat:
		return fields{number: true, body: true}, true
	case api.Observe, api.Return:
		return fields{expr: true}, true
	}
	return fields{}, false
}

func isStep(s api.Stmt) bool {
	has, ok := fieldsOf(s.Kind)
	return ok && hasWords(s, has) && hasParts(s, has) && hasBlocks(s, has)
}

func hasWords(s api.Stmt, has fields) bool {
	if has.name != (s.Name != "") || has.name && !isName(s.Name) {
		return false
	}
	return s.N == 0 || has.number && s.N > 0
}

func hasParts(s api.Stmt, has fields) bool {
	if has.expr && !isExpr(s.Expr) || !has.expr && !isNoExpr(s.Expr) {
		return false
	}
	return has.draw && isDraw(s.Draw) || !has.draw && isNoDraw(s.Draw)
}

func hasBlocks(s api.Stmt, has fields) bool {
	if !has.body && len(s.Body) > 0 || !has.otherwise && len(s.Else) > 0 {
		return false
	}
	return isBlock(s.Body) && isBlock(s.Else)
}

func isNoExpr(e api.Expr) bool {
	return e.Op == 0 && e.N == 0 && e.Name == "" && len(e.Args) == 0
}

func isExpr(e api.Expr) bool {
	switch e.Op {
	case api.Number:
		return isWhole(e.N) && e.Name == "" && len(e.Args) == 0
	case api.Name:
		return e.N == 0 && isName(e.Name) && len(e.Args) == 0
	case api.Use:
		return e.N == 0 && isName(e.Name) && all(e.Args, isExpr)
	}
	_, ok := operatorOf(e.Op)
	return ok && e.N == 0 && e.Name == "" && len(e.Args) == partsOf(e.Op) && all(e.Args, isExpr)
}

// partsOf is how many parts an operator takes.
func partsOf(op int) int {
	if op == api.Not {
		return 1
	}
	return 2
}

func isNoDraw(d api.Draw) bool {
	return d.Kind == 0 && d.P == (api.Frac{}) && d.Lo == 0 && d.Hi == 0 && isNoPick(d)
}

func isNoPick(d api.Draw) bool {
	return len(d.Weights) == 0 && len(d.Values) == 0
}

func isDraw(d api.Draw) bool {
	switch d.Kind {
	case api.Flip:
		return isPart(d.P) && d.Lo == 0 && d.Hi == 0 && isNoPick(d)
	case api.Range:
		return d.P == (api.Frac{}) && isWhole(d.Lo) && isWhole(d.Hi) && isNoPick(d)
	case api.Pick:
		return d.P == (api.Frac{}) && d.Lo == 0 && d.Hi == 0 && isPick(d)
	}
	return false
}

func isPick(d api.Draw) bool {
	return len(d.Weights) > 0 && len(d.Weights) == len(d.Values) && all(d.Values, isWhole) && all(d.Weights, isPart)
}

func isWhole(n int) bool {
	return n >= -api.MaxInt && n <= api.MaxInt
}

func isPart(f api.Frac) bool {
	return !f.Neg && f == frac.Canon(f)
}
