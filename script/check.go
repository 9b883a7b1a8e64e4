package script

import (
	"slices"

	"augur/api"
	"augur/draw"
	"augur/frac"
)

// maxRange is how many values a range may have.
const maxRange = 16

// scope is what may be named at a place: the functions ahead of it, and the variables, those of the innermost block last.
type scope struct {
	functions []api.Def
	visible   []string
}

// checkNames finds the first fault of names and draws, for programs that can be printed.
func checkNames(p api.Prog) api.Errno {
	for i, d := range p.Defs {
		if e := checkFunction(p.Defs[:i], d); e != api.OK {
			return e
		}
	}
	s := scope{functions: p.Defs}
	return s.block(p.Body)
}

func checkFunction(ahead []api.Def, d api.Def) api.Errno {
	s := scope{functions: ahead}
	if _, ok := functionOf(ahead, d.Name); ok {
		return api.ErrDouble
	}
	for _, name := range d.Params {
		if e := s.add(name); e != api.OK {
			return e
		}
	}
	return s.block(d.Body)
}

// functionOf is where the function of a name stands among these.
func functionOf(defs []api.Def, name string) (int, bool) {
	i := slices.IndexFunc(defs, func(d api.Def) bool { return d.Name == name })
	return i, i >= 0
}

func (s *scope) sees(name string) bool {
	return slices.Contains(s.visible, name)
}

func (s *scope) add(name string) api.Errno {
	if s.sees(name) {
		return api.ErrDouble
	}
	s.visible = append(s.visible, name)
	return api.OK
}

// block leaves the scope as it was.
func (s *scope) block(l []api.Stmt) api.Errno {
	outer := len(s.visible)
	for _, one := range l {
		if e := s.step(one); e != api.OK {
			return e
		}
	}
	s.visible = s.visible[:outer]
	return api.OK
}

// step goes through what a step has; what it has not has no fault.
func (s *scope) step(one api.Stmt) api.Errno {
	if (one.Kind == api.Set || one.Kind == api.Again) && !s.sees(one.Name) {
		return api.ErrName
	}
	if e := s.expr(one.Expr); e != api.OK {
		return e
	}
	if e := checkDraw(one.Draw); e != api.OK {
		return e
	}
	if one.Kind == api.Let || one.Kind == api.Roll {
		return s.add(one.Name)
	}
	if e := s.block(one.Body); e != api.OK {
		return e
	}
	return s.block(one.Else)
}

func (s *scope) expr(e api.Expr) api.Errno {
	switch e.Op {
	case api.Name:
		if !s.sees(e.Name) {
			return api.ErrName
		}
	case api.Use:
		i, ok := functionOf(s.functions, e.Name)
		if !ok {
			return api.ErrName
		}
		if len(e.Args) != len(s.functions[i].Params) {
			return api.ErrCount
		}
	}
	for _, x := range e.Args {
		if fault := s.expr(x); fault != api.OK {
			return fault
		}
	}
	return api.OK
}

func checkDraw(d api.Draw) api.Errno {
	one := frac.Of(1)
	switch d.Kind {
	case api.Flip:
		if frac.Cmp(d.P, one) > 0 {
			return api.ErrSum
		}
	case api.Range:
		if d.Hi < d.Lo || draw.Outcomes(d) > maxRange {
			return api.ErrLimit
		}
	case api.Pick:
		if frac.Cmp(frac.Sum(d.Weights), one) != 0 {
			return api.ErrSum
		}
	}
	return api.OK
}
