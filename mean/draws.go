package mean

import (
	"slices"

	"augur/api"
)

// functionOf is where the function stands of which a use is.
func functionOf(defs []api.Def, name string) int {
	return slices.IndexFunc(defs, func(d api.Def) bool { return d.Name == name })
}

// times is how often a step's block stands there, when repeats are written out.
func times(s api.Stmt) int {
	if s.Kind == api.Repeat {
		return s.N
	}
	return 1
}

func draws(s api.Stmt) bool {
	return s.Kind == api.Roll || s.Kind == api.Again
}

// listing gathers the draws of what is gone through, written out.
type listing struct {
	defs []api.Def
	list []api.Draw
}

func drawsOf(p api.Prog) []api.Draw {
	l := listing{defs: p.Defs}
	l.block(p.Body)
	return l.list
}

func (l *listing) block(steps []api.Stmt) {
	for _, s := range steps {
		l.expr(s.Expr)
		if draws(s) {
			l.list = append(l.list, copied(s.Draw))
		}
		for range times(s) {
			l.block(s.Body)
		}
		l.block(s.Else)
	}
}

func (l *listing) expr(e api.Expr) {
	for _, x := range e.Args {
		l.expr(x)
	}
	if e.Op == api.Use {
		l.block(l.defs[functionOf(l.defs, e.Name)].Body)
	}
}

func copied(d api.Draw) api.Draw {
	d.Weights, d.Values = slices.Clone(d.Weights), slices.Clone(d.Values)
	return d
}

// counts is how many draws each function has, by its place. They are reckoned, not gone through one by one: a function that is never used may have more than can be.
type counts struct {
	defs []api.Def
	each []int
}

func countsOf(defs []api.Def) counts {
	c := counts{defs: defs}
	for _, d := range defs {
		c.each = append(c.each, c.block(d.Body))
	}
	return c
}

func (c counts) block(steps []api.Stmt) int {
	sum := 0
	for _, s := range steps {
		sum += c.expr(s.Expr) + times(s)*c.block(s.Body) + c.block(s.Else)
		if draws(s) {
			sum++
		}
	}
	return sum
}

func (c counts) expr(e api.Expr) int {
	sum := 0
	for _, x := range e.Args {
		sum += c.expr(x)
	}
	if e.Op == api.Use {
		sum += c.each[functionOf(c.defs, e.Name)]
	}
	return sum
}
