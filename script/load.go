package script

import (
	"augur/api"
	"augur/draw"
)

// load is how many ways and steps something has, when all is written out. More than are allowed are told as one more: so no number grows too great.
type load struct {
	ways, work int
}

func nothing() load {
	return load{ways: 1}
}

// and is the load of both, one behind the other.
func (a load) and(b load) load {
	return load{min(a.ways*b.ways, api.MaxWays+1), min(a.work+b.work, api.MaxWork+1)}
}

// loads is those of the functions that stand ahead, by their places.
type loads struct {
	functions []api.Def
	each      []load
}

// loadOf is for programs whose names may be: each use is of a function ahead.
func loadOf(p api.Prog) load {
	l := loads{functions: p.Defs}
	for _, d := range p.Defs {
		l.each = append(l.each, l.block(d.Body))
	}
	return l.block(p.Body)
}

func (l loads) block(steps []api.Stmt) load {
	sum := nothing()
	for _, s := range steps {
		sum = sum.and(l.step(s))
	}
	return sum
}

func (l loads) step(s api.Stmt) load {
	sum := load{ways: draw.Outcomes(s.Draw), work: 1}.and(l.expr(s.Expr))
	body := l.block(s.Body)
	times := 1
	if s.Kind == api.Repeat {
		times = s.N
	}
	for range times {
		sum = sum.and(body)
	}
	return sum.and(l.block(s.Else))
}

func (l loads) expr(e api.Expr) load {
	sum := nothing()
	for _, x := range e.Args {
		sum = sum.and(l.expr(x))
	}
	if e.Op == api.Use {
		i, _ := functionOf(l.functions, e.Name)
		sum = sum.and(l.each[i])
	}
	return sum
}
