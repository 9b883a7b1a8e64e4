package cause_test

import (
	"fmt"
	"math"
	"math/big"
	"reflect"
	"slices"
	"testing"

	"augur/api"
	"augur/cause"
	"augur/frac"
	"augur/infer"
	"augur/net"
)

// rainy is the net of the document's session.
const rainy = `var cloudy { no yes }
var rain { no yes }
var wet { no yes }
cloudy : 1/2 1/2 ;
rain | cloudy { no : 4/5 1/5 ; yes : 0.2 0.8 ; }
wet | rain { no : 0.9 0.1 ; else : 1/10 9/10 ; }
`

func TestSession(t *testing.T) {
	n := parsed(t, rainy)
	rain := api.Fact{Var: 1, Value: 1}
	if q, e := cause.Effect(n, []int{2}, []api.Fact{rain}, nil); e != api.OK || texts(q.Cells) != "1/10 9/10" || !slices.Equal(q.Vars, []int{2}) {
		t.Errorf("Effect: %v, error %d", q, e)
	}
	// What is done says nothing of what it hangs on; what is known does.
	if q, e := cause.Effect(n, []int{0}, []api.Fact{rain}, nil); e != api.OK || texts(q.Cells) != "1/2 1/2" {
		t.Errorf("Effect on what is above: %v, error %d", q, e)
	}
	if q, e := cause.Effect(n, []int{0}, nil, []api.Fact{rain}); e != api.OK || texts(q.Cells) != "1/5 4/5" {
		t.Errorf("what is known: %v, error %d", q, e)
	}
	if l, e := cause.Adjust(n, rain, 2, []int{0}); e != api.OK || texts(l) != "1/10 9/10" {
		t.Errorf("Adjust: %v, error %d", l, e)
	}
	for _, c := range []struct {
		x, y, z     int
		back, front bool
	}{{1, 2, 0, true, false}, {0, 2, 1, false, true}} {
		back, _ := cause.BackDoor(n.Parents, c.x, c.y, []int{c.z})
		front, _ := cause.FrontDoor(n.Parents, c.x, c.y, []int{c.z})
		if back != c.back || front != c.front {
			t.Errorf("doors of %d and %d at %d: %v %v", c.x, c.y, c.z, back, front)
		}
	}
}

// doneNet is what Do is to answer, with all numbers in lowest terms.
func doneNet(n api.Net, facts []api.Fact) api.Net {
	m := copied(n)
	for v, l := range m.Rows {
		for i, f := range l {
			m.Rows[v][i] = lowest(rat(f))
		}
	}
	for _, f := range facts {
		m.Parents[f.Var], m.Rows[f.Var] = nil, nil
		for value := range n.Vars[f.Var].Values {
			number := big.NewRat(0, 1)
			if value == f.Value {
				number = big.NewRat(1, 1)
			}
			m.Rows[f.Var] = append(m.Rows[f.Var], lowest(number))
		}
	}
	return m
}

// plain is a text in which empty lists are alike.
func plain(n api.Net) string {
	return fmt.Sprintf("%v %v %q", n.Vars, n.Parents, fmt.Sprint(n.Rows))
}

func TestDoD1(t *testing.T) {
	d := die(7)
	for i := range 300 {
		n := drawn(&d, 1+i%6, 0)
		facts := drawnFacts(&d, n, parted(&d, len(n.Vars), 2)[0])
		got, e := cause.Do(n, facts)
		if want := doneNet(n, facts); e != api.OK || plain(got) != plain(want) {
			t.Fatalf("%s%v: %v, error %d; %v is wanted", told(n), facts, got, e, want)
		}
		if e := net.Check(got); e != api.OK {
			t.Fatalf("%s%v: the net of Do: error %d", told(n), facts, e)
		}
	}
	n := parsed(t, rainy)
	got, e := cause.Do(n, []api.Fact{{Var: 2, Value: 0}, {Var: 0, Value: 1}})
	text, _ := net.Print(got)
	if want := "var cloudy { no yes }\nvar rain { no yes }\nvar wet { no yes }\ncloudy : 0 1 ;\nrain | cloudy {\n no : 4/5 1/5 ;\n yes : 1/5 4/5 ;\n}\nwet : 1 0 ;\n"; e != api.OK || text != want {
		t.Errorf("Do: %s, error %d", text, e)
	}
}

// What can't be may be done.
func TestDoNeverD1(t *testing.T) {
	n := never()
	got, e := cause.Do(n, []api.Fact{{Var: 1, Value: 1}})
	if e != api.OK || plain(got) != plain(doneNet(n, []api.Fact{{Var: 1, Value: 1}})) {
		t.Errorf("Do: %v, error %d", got, e)
	}
	q, e := cause.Effect(n, []int{0, 2}, []api.Fact{{Var: 1, Value: 1}}, nil)
	if e != api.OK || texts(q.Cells) != "1 0" {
		t.Errorf("Effect: %v, error %d", q, e)
	}
}

func TestEffectD1(t *testing.T) {
	d := die(11)
	noughts, without := 0, 0
	for i := range 600 {
		n := drawn(&d, 1+i%6, 0)
		s := parted(&d, len(n.Vars), 4)
		y, done, facts := s[0], drawnFacts(&d, n, s[1]), drawnFacts(&d, n, s[2])
		want, may := shares(n, y, having(ways(n, done), facts))
		got, e := cause.Effect(n, y, done, facts)
		if !may {
			noughts++
			if e != api.ErrZero || len(got.Vars)+len(got.Cells) != 0 {
				t.Fatalf("%s%v %v %v: %v, error %d; ErrZero is wanted", told(n), y, done, facts, got, e)
			}
			continue
		}
		if len(y) == 0 {
			without++
		}
		if e != api.OK || !slices.Equal(got.Vars, y) || !slices.Equal(got.Cells, want) {
			t.Fatalf("%s%v %v %v: %v, error %d; %v is wanted", told(n), y, done, facts, got, e, want)
		}
	}
	if noughts < 10 || without < 10 {
		t.Errorf("just %d facts of Prob 0 and %d questions for nothing were tried", noughts, without)
	}
}

// never is a net of whose first two variables the value 1 can't be.
func never() api.Net {
	one, nought := frac.Of(1), frac.Of(0)
	return api.Net{
		Vars:    []api.Var{{Name: "a", Values: []string{"x", "y"}}, {Name: "b", Values: []string{"x", "y"}}, {Name: "c", Values: []string{"x"}}},
		Parents: [][]int{nil, {0}, nil},
		Rows:    [][]api.Frac{{one, nought}, {one, nought, nought, one}, {one}},
	}
}

// wrongFacts of the net never, and what is to be said of them.
func wrongFacts() map[api.Errno][][]api.Fact {
	return map[api.Errno][][]api.Fact{
		api.ErrVar:    {{{Var: -1}}, {{Var: 3}}, {{Var: math.MaxInt}}, {{Var: math.MinInt}}, {{Var: 9, Value: 9}}, {{Var: 0}, {Var: 3}, {Var: 0}}},
		api.ErrValue:  {{{Var: 0, Value: 2}}, {{Var: 0, Value: -1}}, {{Var: 2, Value: 1}}, {{Var: 1, Value: math.MaxInt}}, {{Var: 1, Value: math.MinInt}}, {{Var: 0}, {Var: 0, Value: 2}}},
		api.ErrDouble: {{{Var: 0}, {Var: 0}}, {{Var: 1}, {Var: 0}, {Var: 1, Value: 1}}, {{Var: 0}, {Var: 0}, {Var: 9}}},
	}
}

func TestFaultsD1(t *testing.T) {
	n := never()
	for want, lists := range wrongFacts() {
		for _, facts := range lists {
			if m, e := cause.Do(n, facts); e != want || len(m.Vars)+len(m.Parents)+len(m.Rows) != 0 {
				t.Errorf("Do(%v): %v, error %d; %d is wanted", facts, m, e, want)
			}
			refuseEffect(t, n, []int{0, 1, 2}, facts, []api.Fact{{Var: 9}}, want)
			refuseEffect(t, n, []int{9}, nil, facts, want)
			refuseEffect(t, n, []int{1}, []api.Fact{{Var: 1}, {Var: 0}, {Var: 2}}, facts, want)
		}
	}
	a, b, c := api.Fact{Var: 0}, api.Fact{Var: 1}, api.Fact{Var: 2}
	notA := api.Fact{Var: 0, Value: 1}
	for _, y := range [][]int{{-1}, {3}, {1, 0}, {1, 1}, {0, 1, 2, 3}, {math.MaxInt}, {math.MinInt}, {0, 0}} {
		refuseEffect(t, n, y, nil, nil, api.ErrVar)
		// Ahead of all that may meet, and of what can't be.
		refuseEffect(t, n, y, []api.Fact{a}, []api.Fact{a, b}, api.ErrVar)
		refuseEffect(t, n, y, nil, []api.Fact{notA}, api.ErrVar)
	}
	refuseEffect(t, n, []int{0}, nil, []api.Fact{b, a}, api.ErrDouble)
	refuseEffect(t, n, []int{1, 2}, nil, []api.Fact{c}, api.ErrDouble)
	refuseEffect(t, n, []int{0}, []api.Fact{a}, nil, api.ErrDouble)
	refuseEffect(t, n, []int{1, 2}, []api.Fact{a, c}, nil, api.ErrDouble)
	refuseEffect(t, n, []int{1}, []api.Fact{a, c}, []api.Fact{c}, api.ErrDouble)
	refuseEffect(t, n, nil, []api.Fact{notA}, []api.Fact{a}, api.ErrDouble)
	// What meets is said ahead of what can't be.
	refuseEffect(t, n, []int{2}, []api.Fact{b}, []api.Fact{notA}, api.ErrZero)
	refuseEffect(t, n, []int{2}, []api.Fact{b, c}, []api.Fact{notA}, api.ErrDouble)
	refuseEffect(t, n, []int{2}, []api.Fact{a}, []api.Fact{{Var: 1, Value: 1}, a}, api.ErrDouble)
	refuseEffect(t, n, []int{0, 2}, nil, []api.Fact{notA}, api.ErrDouble)
	refuseEffect(t, n, nil, []api.Fact{a}, []api.Fact{{Var: 1, Value: 1}}, api.ErrZero)
}

func refuseEffect(t *testing.T, n api.Net, y []int, done, facts []api.Fact, want api.Errno) {
	t.Helper()
	if q, e := cause.Effect(n, y, done, facts); e != want || len(q.Vars)+len(q.Cells) != 0 {
		t.Errorf("Effect(%v, %v, %v): %v, error %d; %d is wanted", y, done, facts, q, e, want)
	}
}

// What net.Check says is said ahead of all else.
func TestNetFirstD1D4(t *testing.T) {
	spoil := map[string]func(n *api.Net){
		"nothing":       func(n *api.Net) { *n = api.Net{} },
		"no rows":       func(n *api.Net) { n.Rows = nil },
		"few parents":   func(n *api.Net) { n.Parents = n.Parents[:2] },
		"cycle":         func(n *api.Net) { n.Parents[0] = []int{1} },
		"no such node":  func(n *api.Net) { n.Parents[1] = []int{7} },
		"no name":       func(n *api.Net) { n.Vars[1].Name = "Else" },
		"like names":    func(n *api.Net) { n.Vars[1].Name = n.Vars[0].Name },
		"no values":     func(n *api.Net) { n.Vars[2].Values = nil },
		"like values":   func(n *api.Net) { n.Vars[0].Values[1] = n.Vars[0].Values[0] },
		"few numbers":   func(n *api.Net) { n.Rows[1] = n.Rows[1][:3] },
		"no sum of 1":   func(n *api.Net) { n.Rows[0][1] = frac.Of(1) },
		"numbers below": func(n *api.Net) { n.Rows[0][0], n.Rows[0][1] = frac.Of(2), frac.Of(-1) },
	}
	for what, f := range spoil {
		n := never()
		f(&n)
		want := net.Check(n)
		if want == api.OK {
			t.Fatalf("%s: the net may be", what)
		}
		for _, facts := range [][]api.Fact{nil, {{Var: 0}}, {{Var: 9}}, {{Var: 0, Value: 9}}, {{Var: 0}, {Var: 0}}, {{Var: 1, Value: 1}}} {
			if m, e := cause.Do(n, facts); e != want || len(m.Vars)+len(m.Parents)+len(m.Rows) != 0 {
				t.Errorf("%s: Do(%v): %v, error %d", what, facts, m, e)
			}
			refuseEffect(t, n, []int{9}, facts, nil, want)
			refuseEffect(t, n, []int{9}, nil, facts, want)
		}
		for _, x := range []api.Fact{{Var: 0}, {Var: 0, Value: 9}, {Var: -1}, {Var: 9}} {
			refuseSeen(t, n, x, 1, []int{2}, want)
			refuseSeen(t, n, x, 0, []int{9}, want)
		}
	}
}

func refuseSeen(t *testing.T, n api.Net, x api.Fact, y int, z []int, want api.Errno) {
	t.Helper()
	if l, e := cause.Adjust(n, x, y, z); e != want || len(l) != 0 {
		t.Errorf("Adjust(%v, %d, %v): %v, error %d; %d is wanted", x, y, z, l, e, want)
	}
	if l, e := cause.Front(n, x, y, z); e != want || len(l) != 0 {
		t.Errorf("Front(%v, %d, %v): %v, error %d; %d is wanted", x, y, z, l, e, want)
	}
}

func TestFaultsD4(t *testing.T) {
	n := never()
	for want, lists := range wrongFacts() {
		for _, facts := range lists {
			if len(facts) == 1 {
				refuseSeen(t, n, facts[0], 1, nil, want)
				// Ahead of what is to be said of the sets.
				refuseSeen(t, n, facts[0], 9, []int{1, 0}, want)
				refuseSeen(t, n, facts[0], 0, []int{0}, want)
			}
		}
	}
	a, notA := api.Fact{Var: 0}, api.Fact{Var: 0, Value: 1}
	for _, c := range []struct {
		y int
		z []int
	}{
		{0, nil}, {-1, nil}, {3, nil}, {math.MaxInt, nil}, {math.MinInt, nil}, {0, []int{1}},
		{1, []int{0}}, {1, []int{1}}, {1, []int{1, 2}}, {1, []int{3}}, {1, []int{-1}}, {1, []int{2, 2}}, {1, []int{2, 3}}, {2, []int{1, 0}}, {1, []int{math.MaxInt}}, {1, []int{math.MinInt, 2}},
	} {
		refuseSeen(t, n, a, c.y, c.z, api.ErrVar)
		// Ahead of what can't be.
		refuseSeen(t, n, notA, c.y, c.z, api.ErrVar)
	}
	d := die(3)
	four := netOf(&d, []int{2, 2, 2, 2}, make([][]int, 4), 1, 3)
	refuseSeen(t, four, a, 1, []int{3, 2}, api.ErrVar)
	refuseSeen(t, four, api.Fact{Var: 3}, 2, []int{1, 0}, api.ErrVar)
	refuseSeen(t, n, notA, 1, nil, api.ErrZero)
	refuseSeen(t, n, notA, 1, []int{2}, api.ErrZero)
	refuseSeen(t, n, api.Fact{Var: 1, Value: 1}, 2, []int{0}, api.ErrZero)
}

// term is how likely it is that y has the value, where something is known, times its weight: false, if that can't be.
func term(weight *big.Rat, all []way, y, value int, known []api.Fact) (*big.Rat, bool) {
	l := having(all, known)
	whole := sum(l)
	if whole.Sign() == 0 {
		return nil, false
	}
	share := sum(having(l, []api.Fact{{Var: y, Value: value}}))
	return share.Quo(share.Mul(share, weight), whole), true
}

// adjusted is what Adjust is to tell, word by word: false for ErrZero.
func adjusted(n api.Net, x api.Fact, y int, z []int) ([]api.Frac, bool) {
	all := ways(n, nil)
	var l []api.Frac
	for value := range n.Vars[y].Values {
		s := new(big.Rat)
		for _, at := range assignments(n, z) {
			p := sum(having(all, at))
			if p.Sign() == 0 {
				continue
			}
			one, ok := term(p, all, y, value, append(slices.Clone(at), x))
			if !ok {
				return nil, false
			}
			s.Add(s, one)
		}
		l = append(l, lowest(s))
	}
	return l, true
}

// fronted is what Front is to tell, word by word: false for ErrZero.
func fronted(n api.Net, x api.Fact, y int, z []int) ([]api.Frac, bool) {
	all := ways(n, nil)
	done := having(all, []api.Fact{x})
	if sum(done).Sign() == 0 {
		return nil, false
	}
	var l []api.Frac
	for value := range n.Vars[y].Values {
		s := new(big.Rat)
		for _, at := range assignments(n, z) {
			behind := sum(having(done, at))
			if behind.Sign() == 0 {
				continue
			}
			behind.Quo(behind, sum(done))
			for other := range n.Vars[x.Var].Values {
				fact := api.Fact{Var: x.Var, Value: other}
				p := sum(having(all, []api.Fact{fact}))
				if p.Sign() == 0 {
					continue
				}
				one, ok := term(p.Mul(p, behind), all, y, value, append(slices.Clone(at), fact))
				if !ok {
					return nil, false
				}
				s.Add(s, one)
			}
		}
		l = append(l, lowest(s))
	}
	return l, true
}

func TestSeenD4(t *testing.T) {
	for _, c := range []struct {
		what string
		call func(api.Net, api.Fact, int, []int) ([]api.Frac, api.Errno)
		want func(api.Net, api.Fact, int, []int) ([]api.Frac, bool)
	}{{"Adjust", cause.Adjust, adjusted}, {"Front", cause.Front, fronted}} {
		d := die(13)
		noughts, others := 0, 0
		for i := range 800 {
			n := drawn(&d, 2+i%5, i%3/2)
			x, y := d.n(len(n.Vars)), d.n(len(n.Vars))
			if x == y {
				continue
			}
			z := slices.DeleteFunc(parted(&d, len(n.Vars), 2)[0], func(v int) bool { return v == x || v == y })
			fact := api.Fact{Var: x, Value: d.n(len(n.Vars[x].Values))}
			want, may := c.want(n, fact, y, z)
			got, e := c.call(n, fact, y, z)
			if !may {
				noughts++
				if e != api.ErrZero || len(got) != 0 {
					t.Fatalf("%s: %s%v %d %v: %v, error %d; ErrZero is wanted", c.what, told(n), fact, y, z, got, e)
				}
				continue
			}
			if len(z) > 0 {
				others++
			}
			if e != api.OK || !slices.Equal(got, want) {
				t.Fatalf("%s: %s%v %d %v: %v, error %d; %v is wanted", c.what, told(n), fact, y, z, got, e, want)
			}
		}
		if noughts < 20 || others < 100 {
			t.Errorf("%s: just %d of Prob 0 and %d others were tried", c.what, noughts, others)
		}
	}
}

// What weighs nothing need not be possible.
func TestNoughtsD4(t *testing.T) {
	for _, c := range []struct {
		what          string
		text          string
		x             api.Fact
		y             int
		z             []int
		adjust, front string // "" for ErrZero
	}{
		{"z's second value can't be, and so not with x",
			"var z { a b } var x { a b } var y { a b } z : 1 0 ; x | z { a : 1/2 1/2 ; b : 0 1 ; } y | x { a : 1/3 2/3 ; b : 1/4 3/4 ; }",
			api.Fact{Var: 1, Value: 0}, 2, []int{0}, "1/3 2/3", "7/24 17/24"},
		{"z's second value can be, but not with x",
			"var z { a b } var x { a b } var y { a b } z : 1/2 1/2 ; x | z { a : 1/2 1/2 ; b : 0 1 ; } y | x { a : 1/3 2/3 ; b : 1/4 3/4 ; }",
			api.Fact{Var: 1, Value: 0}, 2, []int{0}, "", "13/48 35/48"},
		{"z's second value can't be with x's other value",
			"var z { a b } var x { a b } var y { a b } z : 1/2 1/2 ; x | z { a : 1/2 1/2 ; b : 0 1 ; } y | x { a : 1/3 2/3 ; b : 1/4 3/4 ; }",
			api.Fact{Var: 1, Value: 1}, 2, []int{0}, "1/4 3/4", ""},
		{"x's other value can't be",
			"var x { a b } var z { a b } var y { a b } x : 1 0 ; z | x { a : 1/2 1/2 ; b : 0 1 ; } y | z { a : 1/3 2/3 ; b : 1/4 3/4 ; }",
			api.Fact{Var: 0, Value: 0}, 2, []int{1}, "7/24 17/24", "7/24 17/24"},
		{"x's value can't be",
			"var x { a b } var z { a b } var y { a b } x : 1 0 ; z | x { a : 1/2 1/2 ; b : 0 1 ; } y | z { a : 1/3 2/3 ; b : 1/4 3/4 ; }",
			api.Fact{Var: 0, Value: 1}, 2, []int{1}, "", ""},
		{"no z: what is seen, and what is seen of y alone",
			"var x { a b } var y { a b c } x : 1/4 3/4 ; y | x { a : 1/2 1/2 0 ; b : 0 1/2 1/2 ; }",
			api.Fact{Var: 0, Value: 0}, 1, nil, "1/2 1/2 0", "1/8 1/2 3/8"},
		{"y has one value",
			"var x { a b } var y { a } x : 1/4 3/4 ; y : 1 ;",
			api.Fact{Var: 0, Value: 0}, 1, nil, "1", "1"},
	} {
		n := parsed(t, c.text)
		hold := func(name, want string, l []api.Frac, e api.Errno) {
			if want == "" && (e != api.ErrZero || len(l) != 0) || want != "" && (e != api.OK || texts(l) != want) {
				t.Errorf("%s: %s: %s, error %d; %q is wanted", c.what, name, texts(l), e, want)
			}
		}
		l, e := cause.Adjust(n, c.x, c.y, c.z)
		hold("Adjust", c.adjust, l, e)
		l, e = cause.Front(n, c.x, c.y, c.z)
		hold("Front", c.front, l, e)
	}
}

// What is seen tells what would be done, where a door allows it.
func TestDoorsTellEffect(t *testing.T) {
	d := die(17)
	backs, fronts := 0, 0
	for i := range 1500 {
		n := drawn(&d, 3+i%4, 1)
		x, y := d.n(len(n.Vars)), d.n(len(n.Vars))
		if x == y {
			continue
		}
		z := slices.DeleteFunc(parted(&d, len(n.Vars), 2)[0], func(v int) bool { return v == x || v == y })
		fact := api.Fact{Var: x, Value: d.n(len(n.Vars[x].Values))}
		want, _ := cause.Effect(n, []int{y}, []api.Fact{fact}, nil)
		if back, _ := cause.BackDoor(n.Parents, x, y, z); back {
			backs++
			if l, e := cause.Adjust(n, fact, y, z); e != api.OK || !slices.Equal(l, want.Cells) {
				t.Fatalf("%s%v %d %v: Adjust %v, error %d; Effect %v", told(n), fact, y, z, l, e, want)
			}
		}
		if front, _ := cause.FrontDoor(n.Parents, x, y, z); front {
			fronts++
			if l, e := cause.Front(n, fact, y, z); e != api.OK || !slices.Equal(l, want.Cells) {
				t.Fatalf("%s%v %d %v: Front %v, error %d; Effect %v", told(n), fact, y, z, l, e, want)
			}
		}
	}
	if backs < 100 || fronts < 100 {
		t.Errorf("just %d back doors and %d front doors", backs, fronts)
	}
}

// The three rules of doing hold.
func TestRulesHold(t *testing.T) {
	d := die(19)
	var tried [4]int
	for i := range 900 {
		n := drawn(&d, 2+i%5, 1)
		s := parted(&d, len(n.Vars), 4+d.n(2))
		y := s[1]
		x, z, w := drawnFacts(&d, n, s[0]), drawnFacts(&d, n, s[2]), drawnFacts(&d, n, s[3])
		alone, _ := cause.Effect(n, y, x, w)
		known, _ := cause.Effect(n, y, x, slices.Concat(w, z))
		done, _ := cause.Effect(n, y, slices.Concat(x, z), w)
		for k, two := range [][2]api.Table{1: {alone, known}, 2: {known, done}, 3: {alone, done}} {
			if holds, _ := cause.Rule(n.Parents, k, s[0], y, s[2], s[3]); !holds {
				continue
			}
			if len(y) > 0 && len(z) > 0 {
				tried[k]++
			}
			if len(two[0].Cells) == 0 || !slices.Equal(two[0].Cells, two[1].Cells) {
				t.Fatalf("%s%v: rule %d: %v and %v", told(n), s, k, two[0], two[1])
			}
		}
	}
	if tried[1] < 50 || tried[2] < 50 || tried[3] < 50 {
		t.Errorf("just %v were tried", tried)
	}
}

// Nothing done: what is known is told as infer tells it.
func TestNothingDoneD1(t *testing.T) {
	d := die(23)
	for i := range 100 {
		n := drawn(&d, 1+i%6, 0)
		s := parted(&d, len(n.Vars), 3)
		facts := drawnFacts(&d, n, s[1])
		want, e := infer.Posterior(n, s[0], facts)
		if got, f := cause.Effect(n, s[0], nil, facts); e != f || !slices.Equal(got.Cells, want.Cells) {
			t.Fatalf("%s%v %v: %v, error %d", told(n), s[0], facts, got, f)
		}
	}
}

// The greatest nets: eight variables, of four values in a row.
func TestGreatest(t *testing.T) {
	d := die(29)
	row := make([][]int, api.MaxVars)
	for v := range api.MaxVars - 1 {
		row[v+1] = []int{v}
	}
	n := netOf(&d, slices.Repeat([]int{api.MaxSize}, api.MaxVars), row, 1, 5)
	x := api.Fact{Var: 3, Value: 2}
	want, e := cause.Effect(n, []int{6}, []api.Fact{x}, nil)
	if e != api.OK || len(want.Cells) != api.MaxSize {
		t.Fatalf("Effect: %v, error %d", want, e)
	}
	if l, e := cause.Adjust(n, x, 6, []int{0, 2}); e != api.OK || !slices.Equal(l, want.Cells) {
		t.Errorf("Adjust: %v, error %d; %v is wanted", l, e, want)
	}
	if l, e := cause.Front(n, x, 6, []int{4, 5}); e != api.OK || !slices.Equal(l, want.Cells) {
		t.Errorf("Front: %v, error %d; %v is wanted", l, e, want)
	}
}

// spoilt writes over all that a net has.
func spoilt(n api.Net) {
	for v, x := range n.Vars {
		for i := range x.Values {
			x.Values[i] = "spoilt"
		}
		n.Vars[v] = api.Var{}
	}
	for v, l := range n.Parents {
		for i := range l {
			l[i] = 99
		}
		n.Parents[v] = nil
	}
	for v, l := range n.Rows {
		for i := range l {
			l[i] = frac.Of(99)
		}
		n.Rows[v] = nil
	}
}

// grown writes behind each list of a net: what they shared would be seen.
func grown(n api.Net) {
	for v := range n.Vars {
		_ = append(n.Vars[v].Values, "more")
		_ = append(n.Parents[v], 99)
		_ = append(n.Rows[v], frac.Of(99))
	}
}

func TestFreshP2(t *testing.T) {
	d := die(31)
	for i := range 100 {
		n := drawn(&d, 2+i%5, 0)
		before := copied(n)
		s := parted(&d, len(n.Vars), 4)
		y, z := append(make([]int, 0, 20), s[0]...), append(make([]int, 0, 20), s[3]...)
		done, facts := append(make([]api.Fact, 0, 20), drawnFacts(&d, n, s[1])...), append(make([]api.Fact, 0, 20), drawnFacts(&d, n, s[2])...)
		x, other := api.Fact{Var: d.n(len(n.Vars))}, d.n(len(n.Vars))
		z = slices.DeleteFunc(z, func(v int) bool { return v == x.Var || v == other })
		lists := fmt.Sprint(y[:20], z[:20], done[:20], facts[:20])
		type outcome struct {
			net           api.Net
			effect        api.Table
			adjust, front []api.Frac
			errors        [4]api.Errno
		}
		ask := func() (o outcome) {
			o.net, o.errors[0] = cause.Do(n, done)
			o.effect, o.errors[1] = cause.Effect(n, y, done, facts)
			o.adjust, o.errors[2] = cause.Adjust(n, x, other, z)
			o.front, o.errors[3] = cause.Front(n, x, other, z)
			return o
		}
		first := ask()
		text := fmt.Sprint(first)
		if !reflect.DeepEqual(n, before) || fmt.Sprint(y[:20], z[:20], done[:20], facts[:20]) != lists {
			t.Fatalf("%s: written into", told(before))
		}
		grown(first.net)
		if fmt.Sprint(first) != text {
			t.Fatalf("%s: lists of one answer share memory", told(before))
		}
		spoilt(first.net)
		for i := range first.effect.Vars {
			first.effect.Vars[i] = 99
		}
		for _, l := range [][]api.Frac{first.effect.Cells, first.adjust, first.front} {
			for i := range l {
				l[i] = frac.Of(99)
			}
		}
		if !reflect.DeepEqual(n, before) || fmt.Sprint(ask()) != text {
			t.Fatalf("%s: what came out was not the caller's", told(before))
		}
	}
}
