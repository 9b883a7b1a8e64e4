package augur

import (
	"strconv"

	"augur/api"
	"augur/cause"
	"augur/chance"
	"augur/frac"
	"augur/graph"
	"augur/infer"
	"augur/mean"
	"augur/net"
	"augur/table"
)

// The answers to lines, each of the parts of its line; none tells anything beside an error.

func (s *session) show([]part) api.Errno {
	text, e := net.Print(s.net)
	s.told.WriteString(text)
	return e
}

func (s *session) prob(said []part) api.Errno {
	f, e := infer.Prob(s.net, said[0].facts)
	return s.tellChances(e, f)
}

func (s *session) best(said []part) api.Errno {
	at, f, e := infer.Best(s.net, said[0].facts)
	if e != api.OK {
		return e
	}
	s.tellAssignment(allOf(s.net), at, f)
	return api.OK
}

func (s *session) ask(said []part) api.Errno {
	t, e := infer.Posterior(s.net, said[0].vars, said[1].facts)
	if e != api.OK {
		return e
	}
	return s.tellTable(t)
}

func (s *session) do(said []part) api.Errno {
	t, e := cause.Effect(s.net, said[1].vars, said[0].facts, said[2].facts)
	if e != api.OK {
		return e
	}
	return s.tellTable(t)
}

func (s *session) apart(said []part) api.Errno {
	yes, e := graph.Apart(s.net.Parents, said[0].vars, said[1].vars, said[2].vars)
	if e != api.OK {
		return e
	}
	s.tell(yesOrNo(yes))
	return api.OK
}

func (s *session) door(said []part) api.Errno {
	x, y, z := said[0].vars[0], said[1].vars[0], said[2].vars
	back, e := cause.BackDoor(s.net.Parents, x, y, z)
	if e != api.OK {
		return e
	}
	front, e := cause.FrontDoor(s.net.Parents, x, y, z)
	if e != api.OK {
		return e
	}
	s.tell("back", yesOrNo(back), "front", yesOrNo(front))
	return api.OK
}

func (s *session) adjust(said []part) api.Errno {
	l, e := cause.Adjust(s.net, said[0].facts[0], said[1].vars[0], said[2].vars)
	return s.tellChances(e, l...)
}

func (s *session) cliques([]part) api.Errno {
	for _, l := range s.tree.Cliques() {
		names := make([]string, len(l))
		for i, v := range l {
			names[i] = s.net.Vars[v].Name
		}
		s.tell(names...)
	}
	return api.OK
}

func (s *session) know(said []part) api.Errno {
	f := said[0].facts[0]
	if e := s.tree.Enter(f.Var, f.Value); e != api.OK {
		return e
	}
	return s.tellChances(api.OK, s.tree.Prob())
}

func (s *session) forget(said []part) api.Errno {
	if e := s.tree.Forget(said[0].vars[0]); e != api.OK {
		return e
	}
	return s.tellChances(api.OK, s.tree.Prob())
}

func (s *session) margin(said []part) api.Errno {
	l, e := s.tree.Marginal(said[0].vars[0])
	return s.tellChances(e, l...)
}

func (s *session) run([]part) api.Errno {
	a, e := mean.Run(*s.prog)
	if e != api.OK {
		return e
	}
	s.tellPoints(a.Points)
	s.tellWeighed(a.Stuck, "stuck")
	s.tellWeighed(a.Lost, "lost")
	return api.OK
}

func (s *session) after([]part) api.Errno {
	a, e := mean.Run(*s.prog)
	if e != api.OK {
		return e
	}
	points, e := mean.After(a)
	s.tellPoints(points)
	return e
}

func (s *session) diagram([]part) api.Errno {
	d, e := chance.Compile(*s.prog)
	if e != api.OK {
		return e
	}
	s.tell("knots", strconv.Itoa(len(d.Knots)), "draws", strconv.Itoa(len(d.Draws)))
	return api.OK
}

// tellWeighed tells how likely what is named so is.
func (s *session) tellWeighed(f api.Frac, words ...string) {
	s.tell(append(words, ":", frac.Text(f))...)
}

// tellChances tells numbers on one line, if there is no error.
func (s *session) tellChances(e api.Errno, l ...api.Frac) api.Errno {
	if e != api.OK {
		return e
	}
	words := make([]string, len(l))
	for i, f := range l {
		words[i] = frac.Text(f)
	}
	s.tell(words...)
	return api.OK
}

func (s *session) tellPoints(points []api.Point) {
	for _, x := range points {
		s.tellWeighed(x.P, strconv.Itoa(x.Value))
	}
}

// tellTable tells a line for each assignment of a table.
func (s *session) tellTable(t api.Table) api.Errno {
	sizes := net.Sizes(s.net)
	for k, f := range t.Cells {
		at, e := table.Where(sizes, t.Vars, k)
		if e != api.OK {
			return e
		}
		s.tellAssignment(t.Vars, at, f)
	}
	return api.OK
}

// tellAssignment tells how likely an assignment of some variables is, by the names of its values.
func (s *session) tellAssignment(vars, at []int, f api.Frac) {
	names := make([]string, len(vars), len(vars)+2)
	for i, v := range vars {
		names[i] = s.net.Vars[v].Values[at[i]]
	}
	s.tellWeighed(f, names...)
}

// allOf is all variables of a net.
func allOf(n api.Net) []int {
	l := make([]int, len(n.Vars))
	for v := range l {
		l[v] = v
	}
	return l
}

func yesOrNo(b bool) string {
	if b {
		return "yes"
	}
	return "no"
}
