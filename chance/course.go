package chance

import (
	"slices"

	"augur/api"
	"augur/draw"
	"augur/reckon"
)

// course is all ways of a program together, as far as they are gone. Each of its webs has just draws that were come to: so it has no more ends than there are ways.
type course struct {
	defs      []api.Def
	variables map[string]web
	ended     web // Outcome{} on ways that go on, else how they ended
	next      int // the number of the next draw
}

// body is worth what its return is, the last step, or how a way ended ahead of it. It has variables of its own: at first its parameters.
func (c *course) body(steps []api.Stmt, params []string, args []web) web {
	variables, ended := c.variables, c.ended
	c.variables, c.ended = map[string]web{}, endOf(api.Outcome{})
	for i, name := range params {
		c.variables[name] = c.reached(args[i])
	}
	last := len(steps) - 1
	for _, s := range steps[:last] {
		c.step(s)
	}
	v := c.reached(c.value(steps[last].Expr))
	c.variables, c.ended = variables, ended
	return v
}

// block does steps within others; what they let is gone behind them.
func (c *course) block(steps []api.Stmt) {
	for _, s := range steps {
		c.step(s)
	}
	for _, s := range steps {
		if s.Kind == api.Let || s.Kind == api.Roll {
			delete(c.variables, s.Name)
		}
	}
}

func (c *course) step(s api.Stmt) {
	switch s.Kind {
	case api.Let, api.Set:
		c.variables[s.Name] = c.reached(c.value(s.Expr))
	case api.Roll, api.Again:
		c.variables[s.Name] = c.drawn(s.Draw)
	case api.If:
		c.forked(s)
	case api.Repeat:
		for range s.N {
			c.block(s.Body)
		}
	case api.Observe:
		c.ended = together(seen, c.reached(c.value(s.Expr)))
	}
}

// drawn has a fork for the next draw alone.
func (c *course) drawn(d api.Draw) web {
	made := loom{places: map[mark]int{}}
	var kids [maxOutcomes]int
	outcomes := draw.Outcomes(d)
	for i := range outcomes {
		kids[i] = made.end(valued(draw.Value(d, i)))
	}
	made.fork(c.next, kids[:outcomes])
	c.next++
	return made.web
}

// reached is what something is worth on the ways that still go on there; those on which it ended go on no more.
func (c *course) reached(v web) web {
	if len(c.ended) > 1 || stops(c.ended[0].End) {
		v = together(first, c.ended, v)
	}
	if slices.ContainsFunc(v, func(k api.Knot) bool { return stops(k.End) }) {
		c.ended = together(onward, v)
	}
	return v
}

// forked does both of an if's blocks from there; on each way what holds behind it is what the one made that is done on it.
func (c *course) forked(s api.Stmt) {
	asked := c.reached(c.value(s.Expr))
	names := c.written(s)
	before, ended := c.worth(names), c.ended
	c.block(s.Body)
	then, endedThen := c.worth(names), c.ended
	for i, name := range names {
		c.variables[name] = before[i]
	}
	c.ended = ended
	c.block(s.Else)
	for i, name := range names {
		c.variables[name] = together(either, asked, then[i], c.variables[name])
	}
	c.ended = together(either, asked, endedThen, c.ended)
}

// worth is what variables are worth, one by one.
func (c *course) worth(names []string) []web {
	var l []web
	for _, name := range names {
		l = append(l, c.variables[name])
	}
	return l
}

// written are the variables, visible there, to which the blocks of a step may give another value: just these can be other ones behind it.
func (c *course) written(s api.Stmt) []string {
	var names []string
	var gather func(steps []api.Stmt)
	gather = func(steps []api.Stmt) {
		for _, x := range steps {
			_, visible := c.variables[x.Name]
			if visible && !slices.Contains(names, x.Name) {
				names = append(names, x.Name)
			}
			gather(x.Body)
			gather(x.Else)
		}
	}
	gather(s.Body)
	gather(s.Else)
	return names
}

// value works all parts of an expression out, from the left: where one ends a way, it is worth that end.
func (c *course) value(e api.Expr) web {
	switch e.Op {
	case api.Number:
		return endOf(valued(e.N))
	case api.Name:
		return c.variables[e.Name]
	}
	var parts []web
	for _, x := range e.Args {
		parts = append(parts, c.value(x))
	}
	if e.Op == api.Use {
		i := slices.IndexFunc(c.defs, func(d api.Def) bool { return d.Name == e.Name })
		return c.body(c.defs[i].Body, c.defs[i].Params, parts)
	}
	return together(operator(e.Op), parts...)
}

func valued(v int) api.Outcome {
	return api.Outcome{Kind: api.Valued, Value: v}
}

// stops says whether it is the end of a way ahead of its return.
func stops(o api.Outcome) bool {
	return o.Kind == api.Stuck || o.Kind == api.Lost
}

// operator joins the values of an expression's parts; the first part that ended the way is its end.
func operator(op int) func(ends) api.Outcome {
	return func(e ends) api.Outcome {
		if stops(e[0]) {
			return e[0]
		}
		if stops(e[1]) {
			return e[1]
		}
		v, ok := reckon.Joined(op, e[0].Value, e[1].Value)
		if !ok {
			return api.Outcome{Kind: api.Stuck}
		}
		return valued(v)
	}
}

// first is how the way ended, or else what is behind that.
func first(e ends) api.Outcome {
	if stops(e[0]) {
		return e[0]
	}
	return e[1]
}

// onward is Outcome{}, unless the way ended.
func onward(e ends) api.Outcome {
	if stops(e[0]) {
		return e[0]
	}
	return api.Outcome{}
}

// seen is what becomes of a way on which this is observed.
func seen(e ends) api.Outcome {
	if e[0] == valued(0) {
		return api.Outcome{Kind: api.Lost}
	}
	return onward(e)
}

// either is the second, where the first is true, else the third. (Where the first ended the way, the ends behind both blocks are that end already.)
func either(e ends) api.Outcome {
	if e[0].Value != 0 {
		return e[1]
	}
	return e[2]
}
