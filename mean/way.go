package mean

import (
	"augur/api"
	"augur/draw"
)

// way is a way of a program, as far as it is gone.
type way struct {
	counts    counts
	choose    func(number int, d api.Draw) int // which outcome a draw has
	variables map[string]int
	next      int // the number of the next draw
	end       int // Stuck or Lost, where the way ended so
}

// chosen lets each draw have the outcome that stands at its number, if there is such.
func chosen(choices []int) func(number int, d api.Draw) int {
	return func(number int, d api.Draw) int {
		if number >= len(choices) || choices[number] < 0 || choices[number] >= draw.Outcomes(d) {
			return 0
		}
		return choices[number]
	}
}

// outcome goes the way of a program to its end.
func (w *way) outcome(body []api.Stmt) api.Outcome {
	v, ok := w.body(body, nil, nil)
	if !ok {
		return api.Outcome{Kind: w.end}
	}
	return api.Outcome{Kind: api.Valued, Value: v}
}

// body is worth what its return is, the last step. It has variables of its own: at first its parameters.
func (w *way) body(steps []api.Stmt, params []string, args []int) (int, bool) {
	outer := w.variables
	w.variables = map[string]int{}
	for i, name := range params {
		w.variables[name] = args[i]
	}
	last := len(steps) - 1
	for _, s := range steps[:last] {
		if !w.step(s) {
			return 0, false
		}
	}
	v, ok := w.value(steps[last].Expr)
	w.variables = outer
	return v, ok
}

// block does steps within others; what they let is gone behind them.
func (w *way) block(steps []api.Stmt) bool {
	for _, s := range steps {
		if !w.step(s) {
			return false
		}
	}
	for _, s := range steps {
		if s.Kind == api.Let || s.Kind == api.Roll {
			delete(w.variables, s.Name)
		}
	}
	return true
}

// step says whether the way goes on behind it.
func (w *way) step(s api.Stmt) bool {
	v, ok := 0, true
	switch s.Kind {
	case api.Roll, api.Again:
		v = w.drawn(s.Draw)
	case api.Repeat:
		return w.repeated(s)
	default:
		v, ok = w.value(s.Expr)
	}
	if !ok {
		return false
	}
	switch s.Kind {
	case api.If:
		return w.forked(s, v != 0)
	case api.Observe:
		return w.observed(v != 0)
	}
	w.variables[s.Name] = v
	return true
}

func (w *way) drawn(d api.Draw) int {
	outcome := w.choose(w.next, d)
	w.next++
	return draw.Value(d, outcome)
}

func (w *way) repeated(s api.Stmt) bool {
	for range s.N {
		if !w.block(s.Body) {
			return false
		}
	}
	return true
}

// forked does one of an if's blocks; the draws of the other one keep their numbers.
func (w *way) forked(s api.Stmt, isTrue bool) bool {
	if isTrue {
		ok := w.block(s.Body)
		w.next += w.counts.block(s.Else)
		return ok
	}
	w.next += w.counts.block(s.Body)
	return w.block(s.Else)
}

func (w *way) observed(isTrue bool) bool {
	if !isTrue {
		w.end = api.Lost
	}
	return isTrue
}
