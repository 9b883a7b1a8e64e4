package infer

import (
	"slices"

	"augur/api"
	"augur/frac"
	"augur/graph"
	"augur/net"
	"augur/table"
)

// pool is tables that stand for their product: to multiply them late keeps them small.
type pool struct {
	sizes  []int
	free   []int // the variables of the tables, in the order in which they best go
	tables []api.Table
}

// poolOf has what these variables of a net (with each those above it) hang on.
func poolOf(n api.Net, vars []int) pool {
	near, _ := graph.Moral(n.Parents)
	order, _, _ := graph.Fill(near)
	p := pool{sizes: net.Sizes(n)}
	for _, v := range order {
		if slices.Contains(vars, v) {
			t, _ := net.Given(n, v)
			p.free, p.tables = append(p.free, v), append(p.tables, t)
		}
	}
	return p
}

func (p pool) fix(f api.Fact) pool {
	left := p.without(f.Var)
	for _, t := range p.tables {
		fixed, _ := table.Fix(p.sizes, t, f.Var, f.Value)
		left.tables = append(left.tables, fixed)
	}
	return left
}

// out lets a variable go: its sums, or (most) its greatest, take its place.
func (p pool) out(v int, most bool) pool {
	left := p.without(v)
	var with []api.Table
	for _, t := range p.tables {
		if slices.Contains(t.Vars, v) {
			with = append(with, t)
		} else {
			left.tables = append(left.tables, t)
		}
	}
	rest, _ := table.Out(p.sizes, product(p.sizes, with), v, most)
	left.tables = append(left.tables, rest)
	return left
}

// only lets all go but these.
func (p pool) only(vars []int, most bool) api.Table {
	for _, v := range p.free {
		if !slices.Contains(vars, v) {
			p = p.out(v, most)
		}
	}
	return product(p.sizes, p.tables)
}

// without is a pool that has no tables yet, and that variable no more.
func (p pool) without(v int) pool {
	rest := slices.DeleteFunc(slices.Clone(p.free), func(u int) bool { return u == v })
	return pool{sizes: p.sizes, free: rest}
}

func product(sizes []int, tables []api.Table) api.Table {
	all := api.Table{Cells: []api.Frac{frac.Of(1)}}
	for _, t := range tables {
		all, _ = table.Product(sizes, all, t)
	}
	return all
}
