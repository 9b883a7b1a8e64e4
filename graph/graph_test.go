package graph_test

import (
	"fmt"
	"math"
	"math/rand"
	"reflect"
	"slices"
	"testing"

	"augur/api"
	"augur/graph"
)

// The tests hold the package against what the document's words say, worked out with plain tables of what stands beside what, by trying all.

type matrix [][]bool

func newMatrix(count int) matrix {
	m := make(matrix, count)
	for v := range m {
		m[v] = make([]bool, count)
	}
	return m
}

func toMatrix(l [][]int) matrix {
	m := newMatrix(len(l))
	for v := range l {
		for _, u := range l[v] {
			m[v][u] = true
		}
	}
	return m
}

func (m matrix) lists() [][]int {
	l := make([][]int, len(m))
	for v := range m {
		for u := range m[v] {
			if m[v][u] {
				l[v] = append(l[v], u)
			}
		}
	}
	return l
}

// ancestors: of each node all above it, not counting itself unless there is a cycle.
func ancestors(parents [][]int) matrix {
	m := toMatrix(parents)
	for k := range m {
		for v := range m {
			for u := range m {
				m[v][u] = m[v][u] || m[v][k] && m[k][u]
			}
		}
	}
	return m
}

func hasCycle(parents [][]int) bool {
	for v, row := range ancestors(parents) {
		if row[v] {
			return true
		}
	}
	return false
}

// allGraphs: each choice of parents among so many nodes, with and without cycles.
func allGraphs(count int) [][][]int {
	edges := count * (count - 1)
	var all [][][]int
	for choice := range 1 << edges {
		m, bit := newMatrix(count), 0
		for v := range count {
			for u := range count {
				if u != v {
					m[v][u] = choice>>bit&1 == 1
					bit++
				}
			}
		}
		all = append(all, m.lists())
	}
	return all
}

// drawnGraph: without cycles; the nodes' numbers are mixed, so that parents may have greater ones.
func drawnGraph(r *rand.Rand, count int) [][]int {
	mix, m, some := r.Perm(count), newMatrix(count), 1+r.Intn(4)
	for v := range count {
		for u := range v {
			m[mix[v]][mix[u]] = r.Intn(4) < some
		}
	}
	return m.lists()
}

func acyclic() [][][]int {
	var l [][][]int
	for count := 1; count <= 4; count++ {
		for _, parents := range allGraphs(count) {
			if !hasCycle(parents) {
				l = append(l, parents)
			}
		}
	}
	r := rand.New(rand.NewSource(7))
	for i := range 200 {
		l = append(l, drawnGraph(r, 5+i%(api.MaxVars-4)))
	}
	return l
}

// wrongGraphs: parents that may not be, whether there are cycles or not.
func wrongGraphs() [][][]int {
	return [][][]int{
		nil, {}, make([][]int, api.MaxVars+1),
		{{0}}, {{-1}}, {{1}}, {nil, {1}}, {nil, {2}}, {nil, nil, {1, 0}}, {nil, nil, {0, 0}}, {nil, nil, {0, 1, 1}}, {nil, nil, {0, 1, 2}}, {nil, nil, {0, 3}},
		{{math.MaxInt}}, {{math.MinInt}}, {nil, {0, math.MaxInt}}, {nil, {math.MaxInt, 0}},
		{{1}, {0}, {2}}, {{1}, {0}, {9}}, {{1, 1}, {0}},
	}
}

func cycles() [][][]int {
	ring := make([][]int, api.MaxVars)
	for v := range ring {
		ring[v] = []int{(v + 1) % api.MaxVars}
	}
	return [][][]int{{{1}, {0}}, {{2}, {0}, {1}}, {nil, {2}, {1}}, {nil, {0, 3}, {1}, {2}}, {{1}, {0}, nil, {2}}, ring}
}

func TestCheckR1(t *testing.T) {
	for count := 1; count <= 4; count++ {
		for _, parents := range allGraphs(count) {
			want := api.OK
			if hasCycle(parents) {
				want = api.ErrCycle
			}
			if e := graph.Check(parents); e != want {
				t.Fatalf("Check(%v): error %d; %d is wanted", parents, e, want)
			}
		}
	}
	for _, parents := range acyclic() {
		if e := graph.Check(parents); e != api.OK {
			t.Fatalf("Check(%v): error %d", parents, e)
		}
	}
}

// What Check says is said first by all, whatever else they are handed.
func TestCheckFirstR1(t *testing.T) {
	refuse := func(parents [][]int, want api.Errno) {
		t.Helper()
		if e := graph.Check(parents); e != want {
			t.Errorf("Check(%v): error %d; %d is wanted", parents, e, want)
		}
		if l, e := graph.Order(parents); e != want || len(l) != 0 {
			t.Errorf("Order(%v): %v, error %d; %d is wanted", parents, l, e, want)
		}
		if l, e := graph.Moral(parents); e != want || len(l) != 0 {
			t.Errorf("Moral(%v): %v, error %d; %d is wanted", parents, l, e, want)
		}
		for _, l := range [][]int{nil, {0}, {-1}, {9}} {
			if got, e := graph.Above(parents, l); e != want || len(got) != 0 {
				t.Errorf("Above(%v, %v): %v, error %d; %d is wanted", parents, l, got, e, want)
			}
			if apart, e := graph.Apart(parents, l, nil, l); e != want || apart {
				t.Errorf("Apart(%v, %v): %v, error %d; %d is wanted", parents, l, apart, e, want)
			}
		}
	}
	for _, parents := range wrongGraphs() {
		refuse(parents, api.ErrVar)
	}
	for _, parents := range cycles() {
		refuse(parents, api.ErrCycle)
	}
}

// leastOrder: of all orders in which each node stands behind its parents the first one, as lists are compared.
func leastOrder(parents [][]int, begun []int) []int {
	if len(begun) == len(parents) {
		return begun
	}
	for v := range parents {
		ok := !slices.Contains(begun, v)
		for _, u := range parents[v] {
			ok = ok && slices.Contains(begun, u)
		}
		if ok {
			return leastOrder(parents, append(slices.Clone(begun), v))
		}
	}
	return nil
}

func TestOrderR1(t *testing.T) {
	for _, parents := range acyclic() {
		if got, e := graph.Order(parents); e != api.OK || !slices.Equal(got, leastOrder(parents, nil)) {
			t.Fatalf("Order(%v): %v, error %d", parents, got, e)
		}
	}
	for _, c := range []struct {
		parents [][]int
		want    []int
	}{
		{[][]int{nil}, []int{0}}, {[][]int{{1}, {2}, nil}, []int{2, 1, 0}}, {[][]int{{3}, nil, nil, nil}, []int{1, 2, 3, 0}}, {[][]int{{1}, nil, {0}, nil}, []int{1, 0, 2, 3}},
	} {
		if got, e := graph.Order(c.parents); e != api.OK || !slices.Equal(got, c.want) {
			t.Errorf("Order(%v): %v, error %d; %v is wanted", c.parents, got, e, c.want)
		}
	}
}

// subset: the numbers whose bits are set.
func subset(choice int) []int {
	var l []int
	for v := range api.MaxVars {
		if choice>>v&1 == 1 {
			l = append(l, v)
		}
	}
	return l
}

func TestAboveR1(t *testing.T) {
	for _, parents := range acyclic() {
		up := ancestors(parents)
		for choice := range 1 << len(parents) {
			l := subset(choice)
			var want []int
			for u := range parents {
				if slices.ContainsFunc(l, func(v int) bool { return v == u || up[v][u] }) {
					want = append(want, u)
				}
			}
			if got, e := graph.Above(parents, l); e != api.OK || !slices.Equal(got, want) {
				t.Fatalf("Above(%v, %v): %v, error %d; %v is wanted", parents, l, got, e, want)
			}
		}
	}
}

func wrongLists() [][]int {
	return [][]int{{-1}, {3}, {0, 3}, {-1, 0}, {1, 0}, {0, 0}, {2, 2}, {0, 2, 1}, {0, 1, 2, 3}, {math.MaxInt}, {math.MinInt}, {math.MaxInt, 0}}
}

func TestAboveFaultsR1(t *testing.T) {
	for _, l := range wrongLists() {
		if got, e := graph.Above([][]int{nil, {0}, {1}}, l); e != api.ErrVar || len(got) != 0 {
			t.Errorf("Above(%v): %v, error %d; ErrVar is wanted", l, got, e)
		}
	}
}

// ways looks for an open way, of unlike nodes, that goes on behind these.
type ways struct {
	parent matrix
	meets  []bool // of z, or above one of z
	y, z   []int
}

func (w ways) open(way []int) bool {
	last := way[len(way)-1]
	if slices.Contains(w.y, last) {
		return true
	}
	for next := range w.parent {
		if slices.Contains(way, next) || !w.parent[last][next] && !w.parent[next][last] {
			continue
		}
		if len(way) > 1 && !w.passes(way[len(way)-2], last, next) {
			continue
		}
		if w.open(append(slices.Clone(way), next)) {
			return true
		}
	}
	return false
}

func (w ways) passes(before, at, behind int) bool {
	if w.parent[at][before] && w.parent[at][behind] {
		return w.meets[at]
	}
	return !slices.Contains(w.z, at)
}

func apartByWays(parents [][]int, x, y, z []int) bool {
	w := ways{parent: toMatrix(parents), meets: make([]bool, len(parents)), y: y, z: z}
	up := ancestors(parents)
	for _, v := range z {
		for u := range parents {
			w.meets[u] = w.meets[u] || u == v || up[v][u]
		}
	}
	for _, v := range x {
		if w.open([]int{v}) {
			return false
		}
	}
	return true
}

func TestApartR2(t *testing.T) {
	r := rand.New(rand.NewSource(9))
	for _, parents := range acyclic() {
		tries := 1 << (2 * len(parents)) // for up to 4 nodes each choice of the three sets, else some
		for choice := range min(tries, 256) {
			if tries > 256 {
				choice = r.Intn(tries)
			}
			var sets [4][]int
			for v := range parents {
				k := choice >> (2 * v) & 3
				sets[k] = append(sets[k], v)
			}
			x, y, z := sets[0], sets[1], sets[2]
			want := apartByWays(parents, x, y, z)
			got, e := graph.Apart(parents, x, y, z)
			if back, _ := graph.Apart(parents, y, x, z); e != api.OK || got != want || back != want {
				t.Fatalf("Apart(%v, %v, %v, %v): %v (back %v), error %d; %v is wanted", parents, x, y, z, got, back, e, want)
			}
		}
	}
}

func TestApartOfFewR2(t *testing.T) {
	row, fork, meet := [][]int{nil, {0}, {1}}, [][]int{{1}, nil, {1}}, [][]int{nil, {0, 2}, nil, {1}}
	for _, c := range []struct {
		parents [][]int
		x, y, z []int
		want    bool
	}{
		{row, []int{0}, []int{2}, nil, false}, {row, []int{0}, []int{2}, []int{1}, true}, {row, []int{0}, []int{1}, []int{2}, false},
		{fork, []int{0}, []int{2}, nil, false}, {fork, []int{0}, []int{2}, []int{1}, true},
		{meet, []int{0}, []int{2}, nil, true}, {meet, []int{0}, []int{2}, []int{1}, false}, {meet, []int{0}, []int{2}, []int{3}, false},
		{row, nil, []int{2}, nil, true}, {row, []int{0}, nil, nil, true}, {row, nil, nil, nil, true}, {row, nil, nil, []int{0, 1, 2}, true},
		{[][]int{nil}, []int{0}, nil, nil, true}, {[][]int{nil, nil}, []int{0}, []int{1}, nil, true}, {[][]int{{1}, nil}, []int{0}, []int{1}, nil, false},
	} {
		if got, e := graph.Apart(c.parents, c.x, c.y, c.z); e != api.OK || got != c.want {
			t.Errorf("Apart(%v, %v, %v, %v): %v, error %d; %v is wanted", c.parents, c.x, c.y, c.z, got, e, c.want)
		}
	}
}

func TestApartFaultsR2(t *testing.T) {
	parents := [][]int{nil, nil, nil}
	refuse := func(x, y, z []int) {
		t.Helper()
		if got, e := graph.Apart(parents, x, y, z); got || e != api.ErrVar {
			t.Errorf("Apart(%v, %v, %v): %v, error %d; ErrVar is wanted", x, y, z, got, e)
		}
	}
	for _, l := range wrongLists() {
		refuse(l, nil, nil)
		refuse(nil, l, nil)
		refuse(nil, nil, l)
	}
	refuse([]int{0}, []int{0}, nil)
	refuse([]int{0}, nil, []int{0})
	refuse(nil, []int{0}, []int{0})
	refuse([]int{0, 1}, []int{1, 2}, nil)
	refuse([]int{0, 2}, []int{1}, []int{2})
	refuse([]int{0}, []int{1, 2}, []int{2})
}

// moralOf: beside each other are a node and its parent, and two parents of one child.
func moralOf(parents [][]int) [][]int {
	parent, m := toMatrix(parents), newMatrix(len(parents))
	for v := range m {
		for u := range m {
			m[v][u] = parent[v][u] || parent[u][v]
			for child := range m {
				m[v][u] = m[v][u] || u != v && parent[child][u] && parent[child][v]
			}
		}
	}
	return m.lists()
}

// like: the same lists, where one without anything is as one that is not there?
func like(a, b [][]int) bool {
	return slices.EqualFunc(a, b, slices.Equal)
}

func TestMoralR3(t *testing.T) {
	for _, parents := range acyclic() {
		if got, e := graph.Moral(parents); e != api.OK || !like(got, moralOf(parents)) {
			t.Fatalf("Moral(%v): %v, error %d", parents, got, e)
		}
	}
}

// nears: all graphs of up to 5 nodes, by neighbours, and some of more.
func nears() [][][]int {
	var l [][][]int
	for count := 1; count <= 5; count++ {
		for choice := range 1 << (count * (count - 1) / 2) {
			l = append(l, nearOf(count, func(edge int) bool { return choice>>edge&1 == 1 }))
		}
	}
	r := rand.New(rand.NewSource(13))
	for i := range 600 {
		some := 1 + r.Intn(4)
		l = append(l, nearOf(6+i%(api.MaxVars-5), func(int) bool { return r.Intn(5) < some }))
	}
	return l
}

func nearOf(count int, has func(edge int) bool) [][]int {
	m, edge := newMatrix(count), 0
	for v := range count {
		for u := range v {
			m[v][u] = has(edge)
			m[u][v] = m[v][u]
			edge++
		}
	}
	return m.lists()
}

// fillOf: takes nodes out as the document says, in a table of edges.
func fillOf(near [][]int) (order []int, bags [][]int) {
	m := toMatrix(near)
	for range m {
		best, fewest := -1, math.MaxInt
		for v := range m {
			if lacks := len(lacking(m, order, v)); !slices.Contains(order, v) && lacks < fewest {
				best, fewest = v, lacks
			}
		}
		for _, edge := range lacking(m, order, best) {
			m[edge[0]][edge[1]], m[edge[1]][edge[0]] = true, true
		}
		bag := append(leftBeside(m, order, best), best)
		slices.Sort(bag)
		order, bags = append(order, best), append(bags, bag)
	}
	return order, bags
}

func leftBeside(m matrix, gone []int, v int) []int {
	var l []int
	for u := range m {
		if m[v][u] && !slices.Contains(gone, u) {
			l = append(l, u)
		}
	}
	return l
}

func lacking(m matrix, gone []int, v int) [][2]int {
	var l [][2]int
	beside := leftBeside(m, gone, v)
	for i, a := range beside {
		for _, b := range beside[:i] {
			if !m[a][b] {
				l = append(l, [2]int{a, b})
			}
		}
	}
	return l
}

func TestFillR4(t *testing.T) {
	for _, near := range nears() {
		order, bags := fillOf(near)
		if o, b, e := graph.Fill(near); e != api.OK || !slices.Equal(o, order) || !like(b, bags) {
			t.Fatalf("Fill(%v): %v, %v, error %d; %v, %v is wanted", near, o, b, e, order, bags)
		}
	}
	// A ring of four lacks an edge wherever one begins: it is added, and stays.
	order, bags, e := graph.Fill([][]int{{1, 3}, {0, 2}, {1, 3}, {0, 2}})
	if e != api.OK || fmt.Sprint(order, bags) != "[0 1 2 3] [[0 1 3] [1 2 3] [2 3] [3]]" {
		t.Errorf("Fill of a ring of four: %v, %v, error %d", order, bags, e)
	}
}

func TestFillFaultsR4(t *testing.T) {
	for _, near := range append(wrongGraphs(), [][]int{nil, {0}}, [][]int{{1}, nil}, [][]int{{1}, {0, 2}, nil}, [][]int{{1}, {2}, {0}}, [][]int{{1, 2}, {0}, {0, 1}}) {
		if order, bags, e := graph.Fill(near); e != api.ErrVar || len(order) != 0 || len(bags) != 0 {
			t.Errorf("Fill(%v): %v, %v, error %d; ErrVar is wanted", near, order, bags, e)
		}
	}
	if order, _, e := graph.Fill([][]int{{1}, {0}}); e != api.OK || len(order) != 2 {
		t.Errorf("Fill of two that are beside each other: %v, error %d", order, e)
	}
}

func inside(part, whole []int) bool {
	return !slices.ContainsFunc(part, func(v int) bool { return !slices.Contains(whole, v) })
}

func common(a, b []int) []int {
	return slices.DeleteFunc(slices.Clone(a), func(v int) bool { return !slices.Contains(b, v) })
}

func treeOf(bags [][]int) (cliques [][]int, links []api.Link) {
	for i, bag := range bags {
		keep := !slices.ContainsFunc(bags[:i], func(b []int) bool { return slices.Equal(b, bag) })
		for _, other := range bags {
			keep = keep && (!inside(bag, other) || slices.Equal(bag, other))
		}
		if keep {
			cliques = append(cliques, bag)
		}
	}
	stand := []int{0}
	for len(stand) < len(cliques) {
		best := api.Link{A: -1}
		for a := range cliques {
			for b := range cliques {
				sep := common(cliques[a], cliques[b])
				if slices.Contains(stand, a) && !slices.Contains(stand, b) && (best.A < 0 || len(sep) > len(best.Sep)) {
					best = api.Link{A: a, B: b, Sep: sep}
				}
			}
		}
		links, stand = append(links, best), append(stand, best.B)
	}
	return cliques, links
}

func likeLinks(a, b []api.Link) bool {
	return slices.EqualFunc(a, b, func(x, y api.Link) bool { return x.A == y.A && x.B == y.B && slices.Equal(x.Sep, y.Sep) })
}

func holdTree(t *testing.T, bags [][]int) {
	t.Helper()
	cliques, links := treeOf(bags)
	if c, l, e := graph.Tree(bags); e != api.OK || !like(c, cliques) || !likeLinks(l, links) {
		t.Fatalf("Tree(%v): %v, %v, error %d; %v, %v is wanted", bags, c, l, e, cliques, links)
	}
}

func TestTreeR5(t *testing.T) {
	r := rand.New(rand.NewSource(17))
	for range 3000 {
		var bags [][]int
		width := 1 + r.Intn(api.MaxVars)
		for range 1 + r.Intn(api.MaxVars) {
			bags = append(bags, subset(1+r.Intn(1<<width-1)))
		}
		holdTree(t, bags)
	}
	for _, c := range []struct {
		bags [][]int
		want string
	}{
		{[][]int{{3}}, "[[3]] []"},
		{[][]int{{1}, {1}, {1}}, "[[1]] []"},
		{[][]int{{1}, {0, 1}, {0, 1}, {0, 1, 7}, {0}}, "[[0 1 7]] []"},
		{[][]int{{0}, {1}, {2}}, "[[0] [1] [2]] [{0 1 []} {0 2 []}]"},
		{[][]int{{0, 1}, {2, 3}, {1, 2}}, "[[0 1] [2 3] [1 2]] [{0 2 [1]} {2 1 [2]}]"},
		{[][]int{{0, 1}, {0, 2}, {1, 2}}, "[[0 1] [0 2] [1 2]] [{0 1 [0]} {0 2 [1]}]"},
		{[][]int{{0, 7}, {1, 2, 3, 7}, {1, 2, 3, 6}, {1, 2, 6}}, "[[0 7] [1 2 3 7] [1 2 3 6]] [{0 1 [7]} {1 2 [1 2 3]}]"},
	} {
		if cliques, links, e := graph.Tree(c.bags); e != api.OK || fmt.Sprint(cliques, links) != c.want {
			t.Errorf("Tree(%v): %v %v, error %d; %s is wanted", c.bags, cliques, links, e, c.want)
		}
	}
}

func TestTreeFaultsR5(t *testing.T) {
	for _, bags := range [][][]int{
		nil, {}, slices.Repeat([][]int{{0}}, api.MaxVars+1), {nil}, {{}}, {{0}, nil}, {{0}, {}, {1}}, {{-1}}, {{api.MaxVars}}, {{0, api.MaxVars}}, {{1, 0}}, {{0, 0}}, {{0}, {1, 1}},
		{{math.MaxInt}}, {{math.MinInt}}, {{math.MaxInt, 0}},
	} {
		if cliques, links, e := graph.Tree(bags); e != api.ErrVar || len(cliques) != 0 || len(links) != 0 {
			t.Errorf("Tree(%v): %v, %v, error %d; ErrVar is wanted", bags, cliques, links, e)
		}
	}
	if cliques, _, e := graph.Tree([][]int{{api.MaxVars - 1}}); e != api.OK || len(cliques) != 1 {
		t.Errorf("Tree of one bag of the greatest number: %v, error %d", cliques, e)
	}
}

// Of the cliques of any graph those with a node are linked by such cliques alone, and each edge is in a clique.
func TestCliquesHangTogetherR5(t *testing.T) {
	for _, near := range nears() {
		_, bags, _ := graph.Fill(near)
		holdTree(t, bags)
		cliques, links, _ := graph.Tree(bags)
		for v := range near {
			with, linked := 0, 0
			for _, c := range cliques {
				if slices.Contains(c, v) {
					with++
				}
			}
			for _, l := range links { // a tree's links among some of its cliques hold these together, if they are one fewer
				if slices.Contains(l.Sep, v) {
					linked++
				}
			}
			if with != linked+1 || len(links) != len(cliques)-1 {
				t.Fatalf("%v: cliques %v, links %v: those with %d fall apart", near, cliques, links, v)
			}
			for _, u := range near[v] {
				if !slices.ContainsFunc(cliques, func(c []int) bool { return slices.Contains(c, v) && slices.Contains(c, u) }) {
					t.Fatalf("%v: cliques %v: the edge of %d and %d is in none", near, cliques, v, u)
				}
			}
		}
	}
}

func copyOf(l [][]int) [][]int {
	c := make([][]int, len(l))
	for i := range l {
		c[i] = slices.Clone(l[i])
	}
	return c
}

// spoil writes into all that lies in these lists' memory, also behind their ends.
func spoil(all ...[]int) {
	for _, l := range all {
		l = l[:cap(l)]
		for i := range l {
			l[i] = -7
		}
	}
}

// P2: nothing that is handed in is written into; what comes out shares no memory with it, nor do two lists of it.
func TestListsStay(t *testing.T) {
	r := rand.New(rand.NewSource(19))
	for range 200 {
		parents := drawnGraph(r, 1+r.Intn(api.MaxVars))
		near, _ := graph.Moral(parents)
		_, bags, _ := graph.Fill(near)
		l := subset(r.Intn(1 << len(parents)))
		copied := func() []any { return []any{copyOf(parents), copyOf(near), copyOf(bags), slices.Clone(l)} }
		before := copied()
		answer := func() (all [][]int) {
			order, _ := graph.Order(parents)
			up, _ := graph.Above(parents, l)
			_, _ = graph.Apart(parents, l, nil, nil)
			moral, _ := graph.Moral(parents)
			out, taken, _ := graph.Fill(near)
			cliques, links, _ := graph.Tree(bags)
			all = append(all, order, up, out)
			all = append(append(append(all, moral...), taken...), cliques...)
			for _, k := range links {
				all = append(all, k.Sep)
			}
			return all
		}
		got, again := answer(), answer()
		for i := range got {
			spoil(got[i])
			for j := i + 1; j < len(got); j++ {
				if !slices.Equal(got[j], again[j]) {
					t.Fatalf("two lists share memory: %v, %v", parents, near)
				}
			}
		}
		if !reflect.DeepEqual(answer(), again) || !reflect.DeepEqual(before, copied()) {
			t.Fatalf("what comes out is not the caller's: %v, %v, %v, %v", parents, near, bags, l)
		}
	}
}

func TestExample(t *testing.T) {
	parents := [][]int{nil, nil, {0, 1}, {2}, {2}}
	if apart, e := graph.Apart(parents, []int{0}, []int{1}, nil); e != api.OK || !apart {
		t.Errorf("0 and 1, where nothing is known: %v, error %d", apart, e)
	}
	if apart, e := graph.Apart(parents, []int{0}, []int{1}, []int{3}); e != api.OK || apart {
		t.Errorf("0 and 1, where 3 is known: %v, error %d", apart, e)
	}
	near, e := graph.Moral(parents)
	if e != api.OK || fmt.Sprint(near) != "[[1 2] [0 2] [0 1 3 4] [2] [2]]" {
		t.Errorf("Moral: %v, error %d", near, e)
	}
	order, bags, e := graph.Fill(near)
	if e != api.OK || fmt.Sprint(order) != "[0 1 3 2 4]" {
		t.Errorf("Fill: %v, error %d", order, e)
	}
	cliques, links, e := graph.Tree(bags)
	if e != api.OK || fmt.Sprint(cliques, links) != "[[0 1 2] [2 3] [2 4]] [{0 1 [2]} {0 2 [2]}]" {
		t.Errorf("Tree: %v, %v, error %d", cliques, links, e)
	}
}
