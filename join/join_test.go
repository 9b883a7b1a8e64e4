package join_test

import (
	"fmt"
	"math"
	"math/big"
	"reflect"
	"slices"
	"strings"
	"testing"

	"augur/api"
	"augur/frac"
	"augur/graph"
	"augur/infer"
	"augur/join"
	"augur/net"
	"augur/table"
)

// die gives numbers that look drawn, the same each time.
type die uint64

func (d *die) n(most int) int {
	*d = *d*6364136223846793005 + 1442695040888963407
	return int(uint64(*d>>33) % uint64(most))
}

func rat(f api.Frac) *big.Rat {
	num, den := new(big.Int).SetBytes([]byte(f.Num)), new(big.Int).SetBytes([]byte(f.Den))
	if den.Sign() == 0 {
		return new(big.Rat)
	}
	if f.Neg {
		num.Neg(num)
	}
	return new(big.Rat).SetFrac(num, den)
}

// lowest is what of a number must come out (P4).
func lowest(r *big.Rat) api.Frac {
	return api.Frac{Neg: r.Sign() < 0, Num: api.Nat(r.Num().Bytes()), Den: api.Nat(r.Denom().Bytes())}
}

// odd is a number in any form.
func odd(d *die, r *big.Rat) api.Frac {
	if r.Sign() == 0 {
		return []api.Frac{{}, {Neg: true}, {Neg: true, Den: "\x05"}, {Num: "\x03", Den: "\x00"}, {Num: "\x00\x00", Den: "\x01"}}[d.n(5)]
	}
	by := big.NewInt(int64(1 + d.n(6)))
	ahead := strings.Repeat("\x00", d.n(3))
	return api.Frac{Num: api.Nat(ahead + string(new(big.Int).Mul(r.Num(), by).Bytes())), Den: api.Nat(string(new(big.Int).Mul(r.Denom(), by).Bytes()))}
}

// drawnRow has numbers of which those of a small most are often alike, or 0.
func drawnRow(d *die, size, most int) []api.Frac {
	weights := make([]int64, size)
	sum := int64(0)
	for i := range weights {
		weights[i] = int64(d.n(most))
		sum += weights[i]
	}
	if sum == 0 {
		i := d.n(size)
		weights[i], sum = 1, 1
	}
	var row []api.Frac
	for _, w := range weights {
		row = append(row, odd(d, big.NewRat(w, sum)))
	}
	return row
}

// netOf is a net of these sizes and parents.
func netOf(d *die, sizes []int, parents [][]int, most int) api.Net {
	n := api.Net{Parents: parents}
	for v, size := range sizes {
		n.Vars = append(n.Vars, api.Var{Name: fmt.Sprint("n", v), Values: slices.Clone([]string{"no", "yes", "so", "else_"}[:size])})
		rows := 1
		for _, u := range parents[v] {
			rows *= sizes[u]
		}
		var l []api.Frac
		for range rows {
			l = append(l, drawnRow(d, size, most)...)
		}
		n.Rows = append(n.Rows, l)
	}
	return n
}

// drawn is a net in which parents stand ahead of their children or behind them.
func drawn(d *die, count int) api.Net {
	var sizes, order []int
	parents := make([][]int, count)
	for v := range count {
		sizes = append(sizes, 1+d.n(3+v%2))
		order = slices.Insert(order, d.n(len(order)+1), v)
	}
	for i, v := range order {
		for _, u := range order[:i] {
			if d.n(2) == 0 && len(parents[v]) < 3 {
				parents[v] = append(parents[v], u)
			}
		}
		slices.Sort(parents[v])
	}
	return netOf(d, sizes, parents, 2+d.n(8))
}

func copied(n api.Net) api.Net {
	var m api.Net
	for _, x := range n.Vars {
		m.Vars = append(m.Vars, api.Var{Name: x.Name, Values: slices.Clone(x.Values)})
	}
	for _, l := range n.Parents {
		m.Parents = append(m.Parents, slices.Clone(l))
	}
	for _, l := range n.Rows {
		m.Rows = append(m.Rows, slices.Clone(l))
	}
	return m
}

// way is an assignment of all variables, and how likely it is.
type way struct {
	at []int
	p  *big.Rat
}

// ways are all of them, in order, worked out from the net's numbers alone.
func ways(n api.Net) []way {
	l := []way{{nil, nil}}
	for _, x := range n.Vars {
		var longer []way
		for _, w := range l {
			for value := range x.Values {
				longer = append(longer, way{at: append(slices.Clone(w.at), value)})
			}
		}
		l = longer
	}
	for i, w := range l {
		l[i].p = big.NewRat(1, 1)
		for v, x := range n.Vars {
			row := 0
			for _, u := range n.Parents[v] {
				row = row*len(n.Vars[u].Values) + w.at[u]
			}
			l[i].p.Mul(l[i].p, rat(n.Rows[v][row*len(x.Values)+w.at[v]]))
		}
	}
	return l
}

// having are the ways that have the facts.
func having(l []way, facts []api.Fact) []way {
	return slices.DeleteFunc(slices.Clone(l), func(w way) bool {
		return slices.ContainsFunc(facts, func(f api.Fact) bool { return w.at[f.Var] != f.Value })
	})
}

func sum(l []way) *big.Rat {
	s := new(big.Rat)
	for _, w := range l {
		s.Add(s, w.p)
	}
	return s
}

// model is what a tree is to tell, worked out way by way.
type model struct {
	n     api.Net
	all   []way
	facts []api.Fact
}

func (m *model) forget(v int) bool {
	before := len(m.facts)
	m.facts = slices.DeleteFunc(m.facts, func(f api.Fact) bool { return f.Var == v })
	return len(m.facts) < before
}

func (m *model) enter(v, value int) {
	m.forget(v)
	m.facts = append(m.facts, api.Fact{Var: v, Value: value})
}

func (m *model) prob() *big.Rat {
	return sum(having(m.all, m.facts))
}

// cells are how likely each assignment of vars is together with all facts.
func (m *model) cells(vars []int) []*big.Rat {
	sizes := net.Sizes(m.n)
	count, _ := table.Count(sizes, vars)
	sums := make([]*big.Rat, count)
	for k := range sums {
		sums[k] = new(big.Rat)
	}
	for _, w := range having(m.all, m.facts) {
		k := 0
		for _, v := range vars {
			k = k*sizes[v] + w.at[v]
		}
		sums[k].Add(sums[k], w.p)
	}
	return sums
}

func numbers(l []*big.Rat) []api.Frac {
	var out []api.Frac
	for _, r := range l {
		out = append(out, lowest(r))
	}
	return out
}

// hold: does the tree tell what the model does, all of it, in an order that is drawn?
func hold(t *testing.T, d *die, tree *join.Tree, m *model) {
	t.Helper()
	cliques := tree.Cliques()
	var asks []func()
	asks = append(asks, func() {
		if p := tree.Prob(); p != lowest(m.prob()) {
			t.Fatalf("%s: Prob %v; %s is wanted", told(m), p, m.prob())
		}
	})
	for k, clique := range cliques {
		asks = append(asks, func() {
			if b, e := tree.Belief(k); e != api.OK || !slices.Equal(b.Vars, clique) || !slices.Equal(b.Cells, numbers(m.cells(clique))) {
				t.Fatalf("%s: Belief(%d): %v, error %d; of %v %v is wanted", told(m), k, b, e, clique, m.cells(clique))
			}
		})
	}
	for v := range m.n.Vars {
		asks = append(asks, func() {
			got, e := tree.Marginal(v)
			if m.prob().Sign() == 0 {
				if e != api.ErrZero || len(got) != 0 {
					t.Fatalf("%s: Marginal(%d): %v, error %d; ErrZero is wanted", told(m), v, got, e)
				}
				return
			}
			want := m.cells([]int{v})
			for _, r := range want {
				r.Quo(r, m.prob())
			}
			if e != api.OK || !slices.Equal(got, numbers(want)) {
				t.Fatalf("%s: Marginal(%d): %v, error %d; %v is wanted", told(m), v, got, e, want)
			}
		})
	}
	for len(asks) > 0 {
		i := d.n(len(asks))
		asks[i]()
		asks = slices.Delete(asks, i, i+1)
	}
}

func told(m *model) string {
	text, _ := net.Print(m.n)
	return fmt.Sprintf("%s%v", text, m.facts)
}

func grown(t *testing.T, n api.Net) (*join.Tree, *model) {
	t.Helper()
	tree, e := join.New(n)
	if e != api.OK || tree == nil {
		t.Fatalf("New: error %d", e)
	}
	return tree, &model{n: n, all: ways(n)}
}

// expected are the cliques and links that graph gives.
func expected(n api.Net) ([][]int, []api.Link) {
	near, _ := graph.Moral(n.Parents)
	_, bags, _ := graph.Fill(near)
	cliques, links, _ := graph.Tree(bags)
	return cliques, links
}

func TestNewJ1(t *testing.T) {
	d := die(5)
	apart := 0
	for i := range 200 {
		n := drawn(&d, 1+i%8)
		tree, e := join.New(n)
		if e != api.OK {
			t.Fatalf("New: error %d", e)
		}
		cliques, links := expected(n)
		if got := tree.Cliques(); fmt.Sprint(got) != fmt.Sprint(cliques) {
			t.Fatalf("%v: Cliques %v; %v is wanted", n.Parents, got, cliques)
		}
		if got := tree.Links(); fmt.Sprint(got) != fmt.Sprint(links) {
			t.Fatalf("%v: Links %v; %v is wanted", n.Parents, got, links)
		}
		for _, link := range links {
			if len(link.Sep) == 0 {
				apart++
			}
		}
		if p := tree.Prob(); p != frac.Of(1) {
			t.Fatalf("%v: Prob %v of no facts", n.Parents, p)
		}
		for v := range n.Vars {
			if e := tree.Forget(v); e != api.ErrState {
				t.Fatalf("Forget(%d) of a new tree: error %d", v, e)
			}
		}
	}
	if apart < 10 {
		t.Errorf("just %d links by nothing were tried", apart)
	}
}

// The third example of the document.
func TestExampleJ1(t *testing.T) {
	d := die(1)
	tree, _ := grown(t, netOf(&d, []int{2, 2, 2, 2, 2}, [][]int{nil, nil, {0, 1}, {2}, {2}}, 5))
	if got := fmt.Sprint(tree.Cliques(), tree.Links()); got != "[[0 1 2] [2 3] [2 4]] [{0 1 [2]} {0 2 [2]}]" {
		t.Errorf("Cliques and Links: %s", got)
	}
}

// two is a net of two variables, of 2 and 3 values, of which the second hangs on the first.
func two() api.Net {
	d := die(2)
	return netOf(&d, []int{2, 3}, [][]int{nil, {0}}, 9)
}

func TestNewFaultsJ1(t *testing.T) {
	spoil := map[string]func(n *api.Net){
		"nothing":       func(n *api.Net) { *n = api.Net{} },
		"no rows":       func(n *api.Net) { n.Rows = nil },
		"few parents":   func(n *api.Net) { n.Parents = n.Parents[:1] },
		"cycle":         func(n *api.Net) { n.Parents[0] = []int{1} },
		"no such node":  func(n *api.Net) { n.Parents[1] = []int{7} },
		"no name":       func(n *api.Net) { n.Vars[1].Name = "Else" },
		"like names":    func(n *api.Net) { n.Vars[1].Name = n.Vars[0].Name },
		"no values":     func(n *api.Net) { n.Vars[1].Values = nil },
		"like values":   func(n *api.Net) { n.Vars[0].Values[1] = n.Vars[0].Values[0] },
		"few numbers":   func(n *api.Net) { n.Rows[1] = n.Rows[1][:3] },
		"no sum of 1":   func(n *api.Net) { n.Rows[0][1] = frac.Of(2) },
		"numbers below": func(n *api.Net) { n.Rows[0][0], n.Rows[0][1] = frac.Of(2), frac.Of(-1) },
	}
	for what, f := range spoil {
		n := two()
		f(&n)
		want := net.Check(n)
		if tree, e := join.New(n); want == api.OK || e != want || tree != nil {
			t.Errorf("%s: %v, error %d; %d is wanted", what, tree, e, want)
		}
	}
}

// step enters or forgets something, most often what may be.
func step(t *testing.T, d *die, tree *join.Tree, m *model) {
	t.Helper()
	v, value := d.n(len(m.n.Vars)+2)-1, d.n(5)-1
	isVar := v >= 0 && v < len(m.n.Vars)
	want := api.OK
	if d.n(3) == 0 {
		switch {
		case !isVar:
			want = api.ErrVar
		case !m.forget(v):
			want = api.ErrState
		}
		if e := tree.Forget(v); e != want {
			t.Fatalf("%s: Forget(%d): error %d; %d is wanted", told(m), v, e, want)
		}
		return
	}
	switch {
	case !isVar:
		want = api.ErrVar
	case value < 0 || value >= len(m.n.Vars[v].Values):
		want = api.ErrValue
	default:
		m.enter(v, value)
	}
	if e := tree.Enter(v, value); e != want {
		t.Fatalf("%s: Enter(%d, %d): error %d; %d is wanted", told(m), v, value, e, want)
	}
}

// Facts come and go; each time, or after some of them, all is asked for.
func TestFactsComeAndGoJ2J3(t *testing.T) {
	d := die(7)
	noughts := 0
	for i := range 120 {
		tree, m := grown(t, drawn(&d, 1+i%6))
		hold(t, &d, tree, m)
		for range 12 {
			step(t, &d, tree, m)
			if d.n(3) > 0 {
				hold(t, &d, tree, m)
			}
			if m.prob().Sign() == 0 {
				noughts++
			}
		}
		hold(t, &d, tree, m)
	}
	if noughts < 50 {
		t.Errorf("just %d times the facts were of Prob 0", noughts)
	}
}

func TestFaultsJ2(t *testing.T) {
	tree, m := grown(t, two())
	d := die(1)
	for _, c := range []struct {
		v, value int
		want     api.Errno
	}{
		{-1, 0, api.ErrVar}, {2, 0, api.ErrVar}, {-1, -1, api.ErrVar}, {2, 9, api.ErrVar}, {math.MaxInt, 0, api.ErrVar}, {math.MinInt, 0, api.ErrVar},
		{0, -1, api.ErrValue}, {0, 2, api.ErrValue}, {1, 3, api.ErrValue}, {1, math.MaxInt, api.ErrValue}, {1, math.MinInt, api.ErrValue},
	} {
		if e := tree.Enter(c.v, c.value); e != c.want {
			t.Errorf("Enter(%d, %d): error %d; %d is wanted", c.v, c.value, e, c.want)
		}
		if c.want == api.ErrVar {
			if e := tree.Forget(c.v); e != c.want {
				t.Errorf("Forget(%d): error %d; %d is wanted", c.v, e, c.want)
			}
		}
		hold(t, &d, tree, m)
	}
	say := func(what string, got, want api.Errno) {
		t.Helper()
		if got != want {
			t.Errorf("%s: error %d; %d is wanted", what, got, want)
		}
		hold(t, &d, tree, m)
	}
	m.enter(1, 0)
	say("Enter", tree.Enter(1, 0), api.OK)
	say("Enter of no value, where there is a fact", tree.Enter(1, 3), api.ErrValue)
	say("Enter of no value below 0, where there is a fact", tree.Enter(1, -1), api.ErrValue)
	m.enter(1, 2)
	say("Enter in the place of a fact", tree.Enter(1, 2), api.OK)
	say("the same once more", tree.Enter(1, 2), api.OK)
	say("Forget of another one", tree.Forget(0), api.ErrState)
	m.forget(1)
	say("Forget", tree.Forget(1), api.OK)
	say("Forget once more", tree.Forget(1), api.ErrState)
}

func TestFaultsJ3(t *testing.T) {
	d := die(4)
	tree, _ := grown(t, netOf(&d, []int{2, 3, 2}, [][]int{nil, {0}, {1}}, 9)) // two cliques, three variables
	for _, k := range []int{-1, 2, 3, math.MaxInt, math.MinInt} {
		if b, e := tree.Belief(k); e != api.ErrPlace || len(b.Vars)+len(b.Cells) != 0 {
			t.Errorf("Belief(%d): %v, error %d", k, b, e)
		}
	}
	for _, v := range []int{-1, 3, math.MaxInt, math.MinInt} {
		if l, e := tree.Marginal(v); e != api.ErrVar || len(l) != 0 {
			t.Errorf("Marginal(%d): %v, error %d", v, l, e)
		}
	}
}

// What can't be: Prob is 0, each Belief is 0, and a Marginal is ErrZero, behind ErrVar; it comes back when the fact is forgotten.
func TestNeverJ3(t *testing.T) {
	one, nought := frac.Of(1), frac.Of(0)
	n := api.Net{
		Vars:    []api.Var{{Name: "a", Values: []string{"x", "y"}}, {Name: "b", Values: []string{"x", "y"}}, {Name: "c", Values: []string{"x"}}},
		Parents: [][]int{nil, {0}, nil},
		Rows:    [][]api.Frac{{one, nought}, {one, nought, nought, one}, {one}},
	}
	tree, m := grown(t, n)
	d := die(1)
	tree.Enter(1, 1)
	m.enter(1, 1)
	hold(t, &d, tree, m)
	if l, e := tree.Marginal(3); e != api.ErrVar || len(l) != 0 {
		t.Errorf("Marginal(3): %v, error %d", l, e)
	}
	if l, e := tree.Marginal(2); e != api.ErrZero || len(l) != 0 {
		t.Errorf("Marginal(2): %v, error %d", l, e)
	}
	if b, e := tree.Belief(0); e != api.OK || len(b.Cells) == 0 || slices.ContainsFunc(b.Cells, func(f api.Frac) bool { return f != nought }) {
		t.Errorf("Belief(0): %v, error %d", b, e)
	}
	tree.Forget(1)
	m.forget(1)
	hold(t, &d, tree, m)
}

// The document's session, with infer beside it.
func TestSessionJ3(t *testing.T) {
	n, e := net.Parse(`var cloudy { no yes }
var rain { no yes }
var wet { no yes }
cloudy : 1/2 1/2 ;
rain | cloudy { no : 4/5 1/5 ; yes : 0.2 0.8 ; }
wet | rain { no : 0.9 0.1 ; else : 1/10 9/10 ; }
`)
	if e != api.OK {
		t.Fatalf("Parse: error %d", e)
	}
	tree, _ := grown(t, n)
	if got := fmt.Sprint(tree.Cliques()); got != "[[0 1] [1 2]]" {
		t.Errorf("Cliques: %s", got)
	}
	say := func(p, margin string) {
		t.Helper()
		l, e := tree.Marginal(1)
		if got := frac.Text(tree.Prob()); got != p || e != api.OK || len(l) != 2 || frac.Text(l[0])+" "+frac.Text(l[1]) != margin {
			t.Errorf("Prob %s, Marginal %v, error %d; %s, %s are wanted", got, l, e, p, margin)
		}
	}
	say("1", "1/2 1/2")
	tree.Enter(2, 1)
	say("1/2", "1/10 9/10")
	tree.Forget(2)
	say("1", "1/2 1/2")
}

// The greatest nets: eight variables of four values, in a row or all hanging on one; and all wed.
func TestGreatest(t *testing.T) {
	d := die(11)
	sizes := slices.Repeat([]int{api.MaxSize}, api.MaxVars)
	row, fan := make([][]int, api.MaxVars), make([][]int, api.MaxVars)
	for v := range api.MaxVars - 1 {
		row[v], fan[v] = []int{v + 1}, []int{7}
	}
	for _, parents := range [][][]int{row, fan} {
		tree, m := grown(t, netOf(&d, sizes, parents, 5))
		for _, f := range []api.Fact{{Var: 7, Value: 3}, {Var: 3, Value: 0}, {Var: 0, Value: 2}} {
			if e := tree.Enter(f.Var, f.Value); e != api.OK {
				t.Errorf("Enter: error %d", e)
			}
			m.enter(f.Var, f.Value)
		}
		hold(t, &d, tree, m)
	}
	wed := netOf(&d, slices.Repeat([]int{2}, api.MaxVars), [][]int{{1, 2, 3, 4, 5, 6, 7}, {2, 3, 4, 5, 6, 7}, {3, 4, 5, 6, 7}, {4, 5, 6, 7}, {5, 6, 7}, {6, 7}, {7}, nil}, 4)
	tree, m := grown(t, wed)
	hold(t, &d, tree, m)
	tree.Enter(4, 1)
	m.enter(4, 1)
	hold(t, &d, tree, m)
}

// What is told is what infer tells, by whatever way it is worked out.
func TestAsInfer(t *testing.T) {
	d := die(13)
	for i := range 60 {
		tree, m := grown(t, drawn(&d, 1+i%8))
		for range 3 {
			step(t, &d, tree, m)
		}
		p, e := infer.Prob(m.n, m.facts)
		if got := tree.Prob(); e != api.OK || got != p {
			t.Fatalf("%s: Prob %v, %v by infer, error %d", told(m), got, p, e)
		}
		for v := range m.n.Vars {
			if slices.ContainsFunc(m.facts, func(f api.Fact) bool { return f.Var == v }) {
				continue
			}
			got, e := tree.Marginal(v)
			want, f := infer.Posterior(m.n, []int{v}, m.facts)
			if e != f || !slices.Equal(got, want.Cells) {
				t.Fatalf("%s: Marginal(%d): %v, error %d; %v by infer, error %d", told(m), v, got, e, want, f)
			}
		}
	}
}

// spoilt writes into all that a tree gave out.
func spoilt(tree *join.Tree) {
	for k, clique := range tree.Cliques() {
		for i := range clique {
			clique[i] = 77
		}
		b, _ := tree.Belief(k)
		for i := range b.Vars {
			b.Vars[i] = 77
		}
		for i := range b.Cells {
			b.Cells[i] = frac.Of(77)
		}
	}
	cliques, links := tree.Cliques(), tree.Links()
	for k := range cliques {
		cliques[k] = []int{77}
	}
	for i := range links {
		for j := range links[i].Sep {
			links[i].Sep[j] = 77
		}
		links[i].A, links[i].B = 77, 77
	}
	l, _ := tree.Marginal(0)
	for i := range l {
		l[i] = frac.Of(77)
	}
}

// The net is not written into nor kept; what comes out is the caller's; one tree does not know another's facts.
func TestFreshP2(t *testing.T) {
	d := die(17)
	for i := range 60 {
		n := drawn(&d, 1+i%6)
		handed := copied(n)
		tree, m := grown(t, handed)
		m.n = n
		other, still := grown(t, n)
		if !reflect.DeepEqual(handed, n) {
			t.Fatal("New writes into the net")
		}
		for v := range handed.Vars {
			handed.Vars[v].Values[0] = "spoilt"
			for i := range handed.Parents[v] {
				handed.Parents[v][i] = 77
			}
			for i := range handed.Rows[v] {
				handed.Rows[v][i] = frac.Of(77)
			}
		}
		cliques, links := expected(n)
		for range 3 {
			spoilt(tree)
			hold(t, &d, tree, m)
			if fmt.Sprint(tree.Cliques(), tree.Links()) != fmt.Sprint(cliques, links) {
				t.Fatalf("%s: %v %v; %v %v are wanted", told(m), tree.Cliques(), tree.Links(), cliques, links)
			}
			hold(t, &d, other, still)
			step(t, &d, tree, m)
		}
	}
}
