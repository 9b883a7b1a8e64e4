package cause

import (
	"slices"

	"augur/api"
	"augur/frac"
	"augur/infer"
	"augur/known"
	"augur/net"
	"augur/table"
)

// sight is what is seen, where nothing is done: of each assignment of some variables how likely it is.
type sight struct {
	sizes []int
	table api.Table
}

// see is the sight of x's variable, y and z, or what is to be said of them first.
func see(n api.Net, x api.Fact, y int, z []int) (sight, api.Errno) {
	if e := known.Check(n, []api.Fact{x}); e != api.OK {
		return sight{}, e
	}
	if e := setsMayBe(n.Parents, []int{x.Var}, []int{y}, z); e != api.OK {
		return sight{}, e
	}
	t, e := infer.Posterior(n, union([]int{x.Var, y}, z), nil)
	return sight{net.Sizes(n), t}, e
}

// fix is the sight of the others together with a fact.
func (s sight) fix(f api.Fact) sight {
	t, _ := table.Fix(s.sizes, s.table, f.Var, f.Value)
	return sight{s.sizes, t}
}

// only is the table of these of its variables.
func (s sight) only(vars []int) api.Table {
	t := s.table
	for _, v := range others(t.Vars, vars) {
		t, _ = table.Out(s.sizes, t, v, false)
	}
	return t
}

// sure is the table of a fact's variable that has the fact for certain.
func (s sight) sure(f api.Fact) api.Table {
	return api.Table{Vars: []int{f.Var}, Cells: sure(s.sizes[f.Var], f.Value)}
}

func (s sight) product(a, b api.Table) api.Table {
	t, _ := table.Product(s.sizes, a, b)
	return t
}

// mixed is how likely the values of y are where the others are known, each assignment of these taken by its weight; one that weighs nothing need not be possible.
func (s sight) mixed(y int, weights api.Table) ([]api.Frac, api.Errno) {
	known := s.only(weights.Vars)
	shares := slices.Clone(weights.Cells)
	for k, weight := range weights.Cells {
		if frac.Cmp(weight, frac.Of(0)) == 0 {
			continue
		}
		share, e := frac.Div(weight, known.Cells[k])
		if e != api.OK {
			return nil, e
		}
		shares[k] = share
	}
	likely := make([]api.Frac, s.sizes[y])
	for value := range likely {
		with := s.fix(api.Fact{Var: y, Value: value}).table
		terms := make([]api.Frac, len(shares))
		for k, share := range shares {
			terms[k] = frac.Mul(share, with.Cells[k])
		}
		likely[value] = frac.Sum(terms)
	}
	return likely, api.OK
}
