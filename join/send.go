package join

import (
	"slices"

	"augur/api"
	"augur/frac"
	"augur/net"
	"augur/table"
)

const (
	unknown = -1 // no value
	nowhere = -1 // no clique
)

// way is one of the two in which a link is gone.
type way struct {
	from, to int
}

// home is the first clique that has all of these variables. (A variable and its parents, of the net, are in one.)
func home(cliques [][]int, vars []int) int {
	return slices.IndexFunc(cliques, func(clique []int) bool {
		return !slices.ContainsFunc(vars, func(v int) bool { return !slices.Contains(clique, v) })
	})
}

// share lays what the net says of each variable into one clique.
func share(n api.Net, cliques [][]int) []api.Table {
	sizes := net.Sizes(n)
	own := make([]api.Table, len(cliques))
	for k := range own {
		own[k] = api.Table{Cells: []api.Frac{frac.Of(1)}}
	}
	for v := range n.Vars {
		given, _ := net.Given(n, v)
		k := home(cliques, given.Vars)
		own[k], _ = table.Product(sizes, own[k], given)
	}
	return own
}

// learn changes what is known: what was sent by then no longer holds.
func (t *Tree) learn(v, value int) {
	t.facts[v] = value
	clear(t.sent)
}

// gather is what a clique knows of itself and from all beside it but one.
// From all, it is a table of all of the clique's variables: each comes along from the clique where it is at home.
func (t *Tree) gather(k, but int) api.Table {
	all := t.known(k)
	for _, from := range t.beside(k) {
		if from != but {
			all, _ = table.Product(t.sizes, all, t.send(way{from, k}))
		}
	}
	return all
}

// send is what is told along a way; it is worked out once, until facts change.
func (t *Tree) send(w way) api.Table {
	if told, ok := t.sent[w]; ok {
		return told
	}
	told := rest(t.sizes, t.gather(w.from, w.to), t.cliques[w.to])
	t.sent[w] = told
	return told
}

func (t *Tree) beside(k int) []int {
	var l []int
	for _, link := range t.links {
		switch k {
		case link.A:
			l = append(l, link.B)
		case link.B:
			l = append(l, link.A)
		}
	}
	return l
}

// known is a clique's own table, 0 where it is not as a fact says.
func (t *Tree) known(k int) api.Table {
	own := t.own[k]
	for _, v := range t.cliques[k] {
		if t.facts[v] != unknown {
			own, _ = table.Product(t.sizes, own, t.fact(v))
		}
	}
	return own
}

func (t *Tree) fact(v int) api.Table {
	cells := slices.Repeat([]api.Frac{frac.Of(0)}, t.sizes[v])
	cells[t.facts[v]] = frac.Of(1)
	return api.Table{Vars: []int{v}, Cells: cells}
}

// rest sums all variables out but these. The last go first: most hang on ones ahead of them, so that the sums are short.
func rest(sizes []int, t api.Table, vars []int) api.Table {
	for _, v := range slices.Backward(t.Vars) {
		if !slices.Contains(vars, v) {
			t, _ = table.Out(sizes, t, v, false)
		}
	}
	return t
}
