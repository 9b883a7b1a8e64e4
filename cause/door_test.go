package cause_test

import (
	"fmt"
	"math"
	"reflect"
	"slices"
	"testing"

	"augur/api"
	"augur/cause"
)

// The answers are held against what the document's words say, worked out with plain tables of edges, by trying all ways.

// edges: from a parent (first) to a child.
type edges [][]bool

func edgesOf(parents [][]int) edges {
	m := make(edges, len(parents))
	for u := range m {
		m[u] = make([]bool, len(parents))
	}
	for v, l := range parents {
		for _, u := range l {
			m[u][v] = true
		}
	}
	return m
}

// cut leaves those that may stay.
func (m edges) cut(stays func(from, to int) bool) edges {
	left := make(edges, len(m))
	for u := range m {
		left[u] = make([]bool, len(m))
		for v := range m {
			left[u][v] = m[u][v] && stays(u, v)
		}
	}
	return left
}

func (m edges) above(u, v int) bool {
	for next := range m {
		if m[u][next] && (next == v || m.above(next, v)) {
			return true
		}
	}
	return false
}

func (m edges) aboveOne(u int, l []int) bool {
	return slices.ContainsFunc(l, func(v int) bool { return m.above(u, v) })
}

// passes says whether a way is open at a node between two others.
func (m edges) passes(before, at, behind int, z []int) bool {
	if m[before][at] && m[behind][at] {
		return slices.Contains(z, at) || m.aboveOne(at, z)
	}
	return !slices.Contains(z, at)
}

// goesOn says whether a way that is open so far may come to one of y.
func (m edges) goesOn(way, y, z []int) bool {
	at := way[len(way)-1]
	if slices.Contains(y, at) {
		return true
	}
	for next := range m {
		if !m[at][next] && !m[next][at] || slices.Contains(way, next) {
			continue
		}
		if len(way) > 1 && !m.passes(way[len(way)-2], at, next, z) {
			continue
		}
		if m.goesOn(append(slices.Clone(way), next), y, z) {
			return true
		}
	}
	return false
}

func (m edges) apart(x, y, z []int) bool {
	return !slices.ContainsFunc(x, func(v int) bool { return m.goesOn([]int{v}, y, z) })
}

func backDoor(parents [][]int, x, y int, z []int) bool {
	m := edgesOf(parents)
	return !m.aboveOne(x, z) && m.cut(func(from, _ int) bool { return from != x }).apart([]int{x}, []int{y}, z)
}

func frontDoor(parents [][]int, x, y int, z []int) bool {
	m := edgesOf(parents)
	through := m.cut(func(_, to int) bool { return !slices.Contains(z, to) }).above(x, y)
	before := m.cut(func(from, _ int) bool { return from != x }).apart([]int{x}, z, nil)
	behind := m.cut(func(from, _ int) bool { return !slices.Contains(z, from) }).apart(z, []int{y}, []int{x})
	return !through && before && behind
}

func rule(parents [][]int, k int, x, y, z, w []int) bool {
	m := edgesOf(parents).cut(func(_, to int) bool { return !slices.Contains(x, to) })
	left := m
	if k == 2 {
		left = m.cut(func(from, _ int) bool { return !slices.Contains(z, from) })
	}
	if k == 3 {
		left = m.cut(func(_, to int) bool { return !slices.Contains(z, to) || m.aboveOne(to, w) })
	}
	return left.apart(y, z, slices.Concat(x, w))
}

// graphs: all of up to four nodes, and drawn ones up to the greatest.
func graphs(d *die) [][][]int {
	var l [][][]int
	for count := 1; count <= 4; count++ {
		for choice := range 1 << (count * (count - 1)) {
			parents, bit := make([][]int, count), 0
			for v := range count {
				for u := range count {
					if u != v {
						if choice>>bit&1 == 1 {
							parents[v] = append(parents[v], u)
						}
						bit++
					}
				}
			}
			if !circles(parents) {
				l = append(l, parents)
			}
		}
	}
	for i := range 300 {
		l = append(l, drawnParents(d, 5+i%(api.MaxVars-4), api.MaxVars))
	}
	return l
}

// circles says whether so many steps upwards lead from one node to another as only a circle allows.
func circles(parents [][]int) bool {
	at := make([]bool, len(parents))
	for v := range at {
		at[v] = true
	}
	for range parents {
		next := make([]bool, len(parents))
		for v, l := range parents {
			for _, u := range l {
				next[u] = next[u] || at[v]
			}
		}
		at = next
	}
	return slices.Contains(at, true)
}

// subsets are all sets of the numbers below count that have neither x nor y.
func subsets(count, x, y int) [][]int {
	l := [][]int{nil}
	for v := range count {
		if v != x && v != y {
			for _, s := range l {
				l = append(l, append(slices.Clone(s), v))
			}
		}
	}
	return l
}

func TestDoorsD3(t *testing.T) {
	d := die(5)
	backs, fronts, tried := 0, 0, 0
	hold := func(parents [][]int, x, y int, z []int) {
		back, e := cause.BackDoor(parents, x, y, z)
		if want := backDoor(parents, x, y, z); e != api.OK || back != want {
			t.Fatalf("BackDoor(%v, %d, %d, %v): %v, error %d; %v is wanted", parents, x, y, z, back, e, want)
		}
		front, e := cause.FrontDoor(parents, x, y, z)
		if want := frontDoor(parents, x, y, z); e != api.OK || front != want {
			t.Fatalf("FrontDoor(%v, %d, %d, %v): %v, error %d; %v is wanted", parents, x, y, z, front, e, want)
		}
		tried++
		if back && len(z) > 0 {
			backs++
		}
		if front && len(z) > 0 {
			fronts++
		}
	}
	for _, parents := range graphs(&d) {
		for x := range parents {
			for y := range parents {
				if x == y {
					continue
				}
				for _, z := range subsets(len(parents), x, y) {
					if len(parents) <= 4 || d.n(20) == 0 {
						hold(parents, x, y, z)
					}
				}
			}
		}
	}
	if backs < 1000 || fronts < 1000 || tried-backs < 1000 || tried-fronts < 1000 {
		t.Errorf("of %d just %d back doors and %d front doors", tried, backs, fronts)
	}
}

func TestKnownDoorsD3(t *testing.T) {
	for _, c := range []struct {
		what        string
		parents     [][]int
		x, y        int
		z           []int
		back, front bool
	}{
		{"nothing hangs together", [][]int{nil, nil}, 0, 1, nil, true, true},
		{"y hangs on x", [][]int{nil, {0}}, 0, 1, nil, true, false},
		{"x hangs on y", [][]int{{1}, nil}, 0, 1, nil, false, true},
		{"z is below x", [][]int{nil, {0}, {1}}, 0, 2, []int{1}, false, true},
		{"z is far below x", [][]int{nil, {0}, {1}, {0}}, 0, 3, []int{2}, false, false},
		{"both hang on z", [][]int{{2}, {2}, nil}, 0, 1, []int{2}, true, false},
		{"both hang on z, which is not looked at", [][]int{{2}, {2}, nil}, 0, 1, nil, false, true},
		{"two ways meet at z", [][]int{{2}, {3}, nil, nil, {2, 3}}, 0, 1, []int{4}, false, false},
		{"two ways meet at z, which is not looked at", [][]int{{2}, {3}, nil, nil, {2, 3}}, 0, 1, nil, true, true},
		{"two ways meet at z, and one is closed", [][]int{{2}, {3}, nil, nil, {2, 3}}, 0, 1, []int{2, 4}, true, false},
		{"a front door, behind which something else leads to y", [][]int{nil, {0}, {1}, {0, 2}}, 1, 3, []int{2}, false, true},
		{"the way to the front door is not alone", [][]int{nil, {0}, {0, 1}, {0, 2}}, 1, 3, []int{2}, false, false},
		{"x goes past the front door", [][]int{nil, {0}, {1}, {0, 1, 2}}, 1, 3, []int{2}, false, false},
		{"z and y have something in common", [][]int{nil, {0}, {1, 4}, {0, 2, 4}, nil}, 1, 3, []int{2}, false, false},
		{"z and y have x alone in common", [][]int{nil, {0}, {1}, {2}}, 1, 3, []int{2}, false, true},
	} {
		back, e := cause.BackDoor(c.parents, c.x, c.y, c.z)
		front, f := cause.FrontDoor(c.parents, c.x, c.y, c.z)
		if e != api.OK || f != api.OK || back != c.back || front != c.front {
			t.Errorf("%s: back %v front %v, errors %d %d", c.what, back, front, e, f)
		}
	}
}

func TestRuleD5(t *testing.T) {
	d := die(9)
	var holds, fails [4]int
	hold := func(parents [][]int, k int, s [][]int) {
		got, e := cause.Rule(parents, k, s[0], s[1], s[2], s[3])
		if want := rule(parents, k, s[0], s[1], s[2], s[3]); e != api.OK || got != want {
			t.Fatalf("Rule(%v, %d, %v): %v, error %d; %v is wanted", parents, k, s, got, e, want)
		}
		if got && len(s[1]) > 0 && len(s[2]) > 0 {
			holds[k]++
		}
		if !got {
			fails[k]++
		}
	}
	for _, parents := range graphs(&d) {
		for range 30 {
			s := parted(&d, len(parents), 4+d.n(2))
			for k := 1; k <= 3; k++ {
				hold(parents, k, s)
			}
		}
	}
	for k := 1; k <= 3; k++ {
		if holds[k] < 500 || fails[k] < 500 {
			t.Errorf("the rule %d: holds %d, fails %d times", k, holds[k], fails[k])
		}
	}
}

func TestKnownRulesD5(t *testing.T) {
	// y (1) hangs on z (0), z on u (2), y on u; w (3) hangs on z.
	both := [][]int{{2}, {0, 2}, nil, {0}}
	for _, c := range []struct {
		what       string
		parents    [][]int
		x, y, z, w []int
		want       [3]bool
	}{
		{"nothing", [][]int{nil}, nil, nil, nil, nil, [3]bool{true, true, true}},
		{"y hangs on z", [][]int{nil, {0}}, nil, []int{1}, []int{0}, nil, [3]bool{false, true, false}},
		{"z hangs on y", [][]int{{1}, nil}, nil, []int{1}, []int{0}, nil, [3]bool{false, false, true}},
		{"z is done by way of x", [][]int{nil, {0}, {1}}, []int{1}, []int{2}, []int{0}, nil, [3]bool{true, true, true}},
		{"what is done opens nothing", [][]int{nil, {0, 2}, nil}, []int{1}, []int{0}, []int{2}, nil, [3]bool{true, true, true}},
		{"what is known opens", [][]int{nil, {0, 2}, nil}, nil, []int{0}, []int{2}, []int{1}, [3]bool{false, true, false}},
		{"u is known", both, nil, []int{1}, []int{0}, []int{2}, [3]bool{false, true, false}},
		{"u is not known", both, nil, []int{1}, []int{0}, nil, [3]bool{false, false, false}},
		// z (0) hangs on y (1), w (2) on z: the ways into z stay, for z is above w.
		{"z is above w", [][]int{{1}, nil, {0}}, nil, []int{1}, []int{0}, []int{2}, [3]bool{false, false, false}},
		// x (3) lies between z and w: z is not above w any more where x is done.
		{"z is above w by way of x", [][]int{{1}, nil, {3}, {0}}, []int{3}, []int{1}, []int{0}, []int{2}, [3]bool{false, false, true}},
	} {
		for i, want := range c.want {
			if got, e := cause.Rule(c.parents, i+1, c.x, c.y, c.z, c.w); e != api.OK || got != want {
				t.Errorf("%s: rule %d: %v, error %d", c.what, i+1, got, e)
			}
		}
	}
}

func TestWhichRuleD5(t *testing.T) {
	parents := [][]int{nil, {0}, {1}, {2}}
	for _, k := range []int{0, 4, -1, 5, math.MaxInt, math.MinInt} {
		if is, e := cause.Rule(parents, k, []int{0}, []int{1}, []int{2}, []int{3}); is || e != api.ErrPlace {
			t.Errorf("Rule %d: %v, error %d", k, is, e)
		}
		// What is to be said of the sets is said first.
		if is, e := cause.Rule(parents, k, []int{0}, []int{1}, []int{2}, []int{4}); is || e != api.ErrVar {
			t.Errorf("Rule %d of a wrong set: %v, error %d", k, is, e)
		}
		if is, e := cause.Rule([][]int{{1}, {0}}, k, nil, nil, nil, nil); is || e != api.ErrCycle {
			t.Errorf("Rule %d of a wrong graph: %v, error %d", k, is, e)
		}
	}
}

// refuse holds that the three calls say this of a graph with x, y and z.
func refuse(t *testing.T, parents [][]int, x, y int, z []int, want api.Errno) {
	t.Helper()
	if is, e := cause.BackDoor(parents, x, y, z); is || e != want {
		t.Errorf("BackDoor(%v, %d, %d, %v): %v, error %d; %d is wanted", parents, x, y, z, is, e, want)
	}
	if is, e := cause.FrontDoor(parents, x, y, z); is || e != want {
		t.Errorf("FrontDoor(%v, %d, %d, %v): %v, error %d; %d is wanted", parents, x, y, z, is, e, want)
	}
	refuseRule(t, parents, [4][]int{{x}, {y}, z, nil}, want)
}

func refuseRule(t *testing.T, parents [][]int, s [4][]int, want api.Errno) {
	t.Helper()
	for k := 1; k <= 3; k++ {
		if is, e := cause.Rule(parents, k, s[0], s[1], s[2], s[3]); is || e != want {
			t.Errorf("Rule(%v, %d, %v): %v, error %d; %d is wanted", parents, k, s, is, e, want)
		}
	}
}

func TestGraphFirstD2(t *testing.T) {
	for _, c := range []struct {
		parents [][]int
		want    api.Errno
	}{
		{nil, api.ErrVar}, {[][]int{}, api.ErrVar}, {make([][]int, api.MaxVars+1), api.ErrVar},
		{[][]int{nil, {1}, nil}, api.ErrVar}, {[][]int{nil, {3}, nil}, api.ErrVar}, {[][]int{nil, {-1}, nil}, api.ErrVar}, {[][]int{nil, nil, {1, 0}}, api.ErrVar}, {[][]int{nil, nil, {0, 0}}, api.ErrVar},
		{[][]int{{1}, {0}, nil}, api.ErrCycle}, {[][]int{{1}, {2}, {0}}, api.ErrCycle}, {[][]int{{1}, {0}, {2}}, api.ErrVar},
	} {
		refuse(t, c.parents, 0, 1, []int{2}, c.want)
		refuse(t, c.parents, 0, 1, nil, c.want)
		refuseRule(t, c.parents, [4][]int{}, c.want)
		// Ahead of what is to be said of the sets.
		refuse(t, c.parents, 0, 0, []int{9}, c.want)
	}
	// Without the ways out of x or into z the circle would be none.
	refuse(t, [][]int{{1}, {0}, nil}, 0, 2, []int{1}, api.ErrCycle)
	refuse(t, [][]int{{1}, {0}, nil}, 2, 1, []int{0}, api.ErrCycle)
}

func TestSetsD2(t *testing.T) {
	parents := [][]int{nil, {0}, {1}, {0, 2}}
	for _, v := range []int{-1, 4, math.MaxInt, math.MinInt} {
		refuse(t, parents, v, 1, nil, api.ErrVar)
		refuse(t, parents, 1, v, nil, api.ErrVar)
		refuse(t, parents, 0, 1, []int{v}, api.ErrVar)
		refuse(t, parents, 0, 1, []int{2, v}, api.ErrVar)
	}
	for _, z := range [][]int{{3, 2}, {2, 2}, {0}, {1}, {0, 2}, {1, 2}, {0, 1}, {2, 3, 3}} {
		refuse(t, parents, 0, 1, z, api.ErrVar)
	}
	for v := range parents {
		refuse(t, parents, v, v, nil, api.ErrVar)
	}
	for i := range 4 {
		for _, wrong := range [][]int{{-1}, {4}, {1, 0}, {0, 0}, {math.MaxInt}, {math.MinInt, 0}, {0, 1, 2, 3, 4}} {
			var s [4][]int
			s[i] = wrong
			refuseRule(t, parents, s, api.ErrVar)
		}
		for k := range i {
			var s [4][]int
			s[i], s[k] = []int{1, 2}, []int{2, 3}
			refuseRule(t, parents, s, api.ErrVar)
			s[k] = []int{2}
			refuseRule(t, parents, s, api.ErrVar)
		}
	}
}

// Nothing that is handed in is written into, nor what lies behind it.
func TestGraphsStayP2(t *testing.T) {
	d := die(31)
	for range 200 {
		count := 2 + d.n(api.MaxVars-1)
		parents := drawnParents(&d, count, api.MaxVars)
		for v, l := range parents {
			parents[v] = append(make([]int, 0, len(l)+4), l...)
		}
		s := parted(&d, count, 5)
		x, y := d.n(count), d.n(count)
		z := slices.DeleteFunc(slices.Clone(s[2]), func(v int) bool { return v == x || v == y })
		before := fmt.Sprint(parents, s, z)
		deep := make([][]int, count)
		for v, l := range parents {
			deep[v] = slices.Clone(l[:cap(l)])
		}
		ask := func() string {
			back, e := cause.BackDoor(parents, x, y, z)
			front, f := cause.FrontDoor(parents, x, y, z)
			text := fmt.Sprint(back, e, front, f)
			for k := range 5 {
				is, e := cause.Rule(parents, k, s[0], s[1], s[2], s[3])
				text += fmt.Sprint(is, e)
			}
			return text
		}
		first := ask()
		if after := fmt.Sprint(parents, s, z); after != before {
			t.Fatalf("%s became %s", before, after)
		}
		for v, l := range parents {
			if !reflect.DeepEqual(deep[v], l[:cap(l)]) {
				t.Fatalf("%s: written behind a list", before)
			}
		}
		if again := ask(); again != first {
			t.Fatalf("%s: %s, then %s", before, first, again)
		}
	}
}
