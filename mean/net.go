package mean

import (
	"strconv"

	"augur/api"
	"augur/frac"
	"augur/graph"
)

// programOf is for nets and facts that may be.
func programOf(n api.Net, facts []api.Fact, q int) api.Prog {
	var l []api.Stmt
	order, _ := graph.Order(n.Parents)
	for _, v := range order {
		l = append(l, variable(n, v)...)
	}
	for _, f := range facts {
		l = append(l, api.Stmt{Kind: api.Observe, Expr: is(f.Var, f.Value)})
	}
	return api.Prog{Body: append(l, api.Stmt{Kind: api.Return, Expr: named(q)})}
}

// variable is the steps that draw one whose parents are drawn.
func variable(n api.Net, v int) []api.Stmt {
	parents := n.Parents[v]
	if len(parents) == 0 {
		return []api.Stmt{{Kind: api.Roll, Name: nameOf(v), Draw: rowOf(n, v, 0)}}
	}
	nought := api.Expr{Op: api.Number}
	return []api.Stmt{{Kind: api.Let, Name: nameOf(v), Expr: nought}, asking(n, v, parents, 0)}
}

// asking is the step that asks for the values of the parents that are left, and draws v; row is that of the parents ahead.
func asking(n api.Net, v int, left []int, row int) api.Stmt {
	if len(left) == 0 {
		return api.Stmt{Kind: api.Again, Name: nameOf(v), Draw: rowOf(n, v, row)}
	}
	size := len(n.Vars[left[0]].Values)
	s := asking(n, v, left[1:], row*size+size-1)
	for value := size - 2; value >= 0; value-- {
		then := asking(n, v, left[1:], row*size+value)
		s = api.Stmt{Kind: api.If, Expr: is(left[0], value), Body: []api.Stmt{then}, Else: []api.Stmt{s}}
	}
	return s
}

func rowOf(n api.Net, v, row int) api.Draw {
	d := api.Draw{Kind: api.Pick}
	size := len(n.Vars[v].Values)
	for value, f := range n.Rows[v][row*size : (row+1)*size] {
		d.Values, d.Weights = append(d.Values, value), append(d.Weights, frac.Canon(f))
	}
	return d
}

func nameOf(v int) string {
	return "x" + strconv.Itoa(v)
}

func named(v int) api.Expr {
	return api.Expr{Op: api.Name, Name: nameOf(v)}
}

func is(v, value int) api.Expr {
	return api.Expr{Op: api.Eq, Args: []api.Expr{named(v), {Op: api.Number, N: value}}}
}
