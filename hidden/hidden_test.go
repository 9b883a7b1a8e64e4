package hidden_test

import (
	"fmt"
	"math"
	"math/big"
	"reflect"
	"slices"
	"strings"
	"testing"

	"augur/api"
	"augur/frac"
	"augur/hidden"
	"augur/infer"
	"augur/net"
)

// umbrella is the document's example.
const umbrella = "1/2 1/2 | 2/3 1/3; 1/3 2/3 | 9/10 1/10; 1/5 4/5"

type fault struct {
	h    api.Hidden
	want api.Errno
}

// wrong are hidden chains that may not be, and what is said of them.
func wrong(t *testing.T) []fault {
	five := "1 0 0 0 0"
	fives := strings.Repeat(five+";", 4) + five
	l := []fault{
		{api.Hidden{}, api.ErrCount},
		{api.Hidden{Start: []api.Frac{}, Move: [][]api.Frac{}, Show: [][]api.Frac{}}, api.ErrCount},
		{api.Hidden{Start: []api.Frac{frac.Of(1)}}, api.ErrCount},
		{api.Hidden{Start: []api.Frac{frac.Of(1)}, Move: [][]api.Frac{{frac.Of(1)}}}, api.ErrCount},
		{api.Hidden{Start: []api.Frac{frac.Of(1)}, Show: [][]api.Frac{{frac.Of(1)}}}, api.ErrCount},
		{api.Hidden{Move: [][]api.Frac{{frac.Of(1)}}, Show: [][]api.Frac{{frac.Of(1)}}}, api.ErrCount},
	}
	for text, want := range map[string]api.Errno{
		five + "|" + fives + "| 1; 1; 1; 1; 1": api.ErrCount,
		"1 | 1 |" + five:                       api.ErrCount,
		"1 | 1 | ":                             api.ErrCount,
		"1 | | 1":                              api.ErrCount,
		"| | ":                                 api.ErrCount,
		"1 | 1; 1 | 1":                         api.ErrCount,
		"1 | 1 0 | 1":                          api.ErrCount,
		"1 | 1 | 1; 1":                         api.ErrCount,
		"1 0 | 1 0 | 1; 1":                     api.ErrCount,
		"1 0 | 1 0; 1 | 1; 1":                  api.ErrCount,
		"1 0 | 1 0; 0 1 0 | 1; 1":              api.ErrCount,
		"1 0 | 1 0; 0 1; 0 1 | 1; 1":           api.ErrCount,
		"1 0 | 1 0; 0 1 | 1":                   api.ErrCount,
		"1 0 | 1 0; 0 1 | 1; 1; 1":             api.ErrCount,
		"1 0 | 1 0; 0 1 | 1; 1 0":              api.ErrCount,
		"1 0 | 1 0; 0 1 | 1 0; 1":              api.ErrCount,
		"1 0 | 1 0; 0 1 | ; ":                  api.ErrCount,
		"1 0 | 1 0; 0 1 | 1; ":                 api.ErrCount,
		"1/2 | 1 | 1":                          api.ErrSum,
		"1 | 1/2 | 1":                          api.ErrSum,
		"1 | 1 | 1/2":                          api.ErrSum,
		"0 | 1 | 1":                            api.ErrSum,
		"1 | 1 | 0 0 0 0":                      api.ErrSum,
		"3/2 -1/2 | 1 0; 0 1 | 1; 1":           api.ErrSum,
		"1 0 | 1 0; 3/2 -1/2 | 1; 1":           api.ErrSum,
		"1 0 | 1 0; 0 1 | 1 0; -1 2":           api.ErrSum,
		"1/2 1/3 | 1 0; 0 1 | 1; 1":            api.ErrSum,
		"1 0 | 1/2 2/3; 0 1 | 1; 1":            api.ErrSum,
		"1 0 | 1 0; 0 1 | 1/2 1/2; 1/2 1/3":    api.ErrSum,
		// A wrong count is said ahead of a wrong sum, wherever it stands.
		"1/2 | 1 | 1; 1":                  api.ErrCount,
		"1 0 | 1/2 0; 1 | 1; 1":           api.ErrCount,
		"1/2 0 | 1 0; 0 1 | 1 0; 1":       api.ErrCount,
		"1 0 | 1 0; 0 1 | -1 2; 1":        api.ErrCount,
		"1 0 | 1 0; 2 -1 | 1 0; 1 0; 1 0": api.ErrCount,
	} {
		l = append(l, fault{made(t, text), want})
	}
	return l
}

func TestCheckH1(t *testing.T) {
	for _, w := range wrong(t) {
		if e := hidden.Check(w.h); e != w.want {
			t.Errorf("%s: error %d, %d is wanted", told(w.h), e, w.want)
		}
	}
	for _, text := range []string{"1 | 1 | 1", "1 | 1 | 1/4 1/4 0 1/2", umbrella, "1 0 | 1 0; 0 1 | 1; 1", "1/4 1/4 1/4 1/4 | 1 0 0 0; 0 1 0 0; 0 0 1 0; 0 0 0 1 | 1; 1; 1; 1"} {
		if e := hidden.Check(made(t, text)); e != api.OK {
			t.Errorf("%s: error %d", text, e)
		}
	}
	eachDrawn(func(d *die, h api.Hidden, seen []int) {
		if e := hidden.Check(h); e != api.OK {
			t.Fatalf("%s: error %d", told(h), e)
		}
	})
}

// refuse calls all that is handed what is seen: is it refused with this error, and nothing beside it (P1)?
func refuse(t *testing.T, h api.Hidden, seen []int, want api.Errno) {
	t.Helper()
	for i, f := range []func(api.Hidden, []int) ([][]api.Frac, api.Errno){hidden.Forward, hidden.Backward, hidden.Smooth} {
		if l, e := f(h, seen); len(l) != 0 || e != want {
			t.Errorf("call %d of %s, seen %v: %s, error %d; %d is wanted", i, told(h), seen, rows(l), e, want)
		}
	}
	if p, e := hidden.Likely(h, seen); !isNone(p) || e != want {
		t.Errorf("Likely of %s, seen %v: %s, error %d; %d is wanted", told(h), seen, frac.Text(p), e, want)
	}
	if l, p, e := hidden.Path(h, seen); len(l) != 0 || !isNone(p) || e != want {
		t.Errorf("Path of %s, seen %v: %v, %s, error %d; %d is wanted", told(h), seen, l, frac.Text(p), e, want)
	}
}

func TestCheckFirstH1(t *testing.T) {
	for _, w := range wrong(t) {
		for _, seen := range [][]int{nil, {0}, {-1}, {99}, make([]int, api.MaxSteps+1)} {
			refuse(t, w.h, seen, w.want)
		}
		for _, steps := range []int{-1, 0, 1, api.MaxVars / 2, 5} {
			if n, e := hidden.Unroll(w.h, steps); e != w.want || !reflect.DeepEqual(n, api.Net{}) {
				t.Errorf("Unroll(%s, %d): %v, error %d; %d is wanted", told(w.h), steps, n, e, w.want)
			}
		}
	}
}

func TestSeenH1(t *testing.T) {
	h := made(t, "1 0 | 1/2 1/2; 0 1 | 1/3 1/3 1/3; 1/2 1/2 0")
	for _, seen := range [][]int{{-1}, {3}, {0, 1, 2, 3}, {0, -1, 0}, {math.MaxInt}, {math.MinInt}, {0, 0, 0, 0, 0, 0, 0, 3}} {
		refuse(t, h, seen, api.ErrValue)
	}
	for _, seen := range [][]int{make([]int, api.MaxSteps+1), {0, 1, 2, 0, 1, 2, 0, 1, 3}, slices.Repeat([]int{-1}, 100)} {
		refuse(t, h, seen, api.ErrLimit)
	}
	if _, e := hidden.Likely(h, make([]int, api.MaxSteps)); e != api.OK {
		t.Errorf("MaxSteps signs: error %d", e)
	}
}

// same: is it, at each step, of each state, this number?
func same(t *testing.T, what string, h api.Hidden, seen []int, got [][]api.Frac, e api.Errno, want func(step, state int) *big.Rat) {
	t.Helper()
	if e != api.OK || len(got) != len(seen) {
		t.Fatalf("%s of %s, seen %v: %s, error %d", what, told(h), seen, rows(got), e)
	}
	for step, row := range got {
		if len(row) != len(h.Start) {
			t.Fatalf("%s of %s, seen %v: %s", what, told(h), seen, rows(got))
		}
		for state, f := range row {
			if f != lowest(want(step, state)) {
				t.Fatalf("%s of %s, seen %v: %s; %s is wanted at step %d of %d", what, told(h), seen, rows(got), want(step, state), step, state)
			}
		}
	}
}

func anyWay(at []int) bool { return true }

func TestLikelyH2(t *testing.T) {
	eachDrawn(func(d *die, h api.Hidden, seen []int) {
		want := lowest(sum(ways(h, seen), anyWay))
		if got, e := hidden.Likely(h, seen); e != api.OK || got != want {
			t.Fatalf("%s, seen %v: %s, error %d; %s is wanted", told(h), seen, frac.Text(got), e, frac.Text(want))
		}
	})
	// One of all that may be seen is seen.
	h := made(t, umbrella)
	for steps := range 5 {
		whole := frac.Of(0)
		for number := range 1 << steps {
			var seen []int
			for k := range steps {
				seen = append(seen, number>>k&1)
			}
			p, _ := hidden.Likely(h, seen)
			whole = frac.Add(whole, p)
		}
		if whole != frac.Of(1) {
			t.Errorf("all that may be seen in %d steps: %s", steps, frac.Text(whole))
		}
	}
}

func TestForwardH2(t *testing.T) {
	eachDrawn(func(d *die, h api.Hidden, seen []int) {
		got, e := hidden.Forward(h, seen)
		same(t, "Forward", h, seen, got, e, func(step, state int) *big.Rat {
			return sum(ways(h, seen[:step+1]), func(at []int) bool { return at[step] == state })
		})
	})
}

func TestBackwardH2(t *testing.T) {
	eachDrawn(func(d *die, h api.Hidden, seen []int) {
		got, e := hidden.Backward(h, seen)
		same(t, "Backward", h, seen, got, e, func(step, state int) *big.Rat {
			// The further steps are a hidden chain that starts as this state moves on.
			return sum(ways(api.Hidden{Start: h.Move[state], Move: h.Move, Show: h.Show}, seen[step+1:]), anyWay)
		})
	})
}

func TestSmoothH2(t *testing.T) {
	some, none := 0, 0
	eachDrawn(func(d *die, h api.Hidden, seen []int) {
		got, e := hidden.Smooth(h, seen)
		l := ways(h, seen)
		whole := sum(l, anyWay)
		if whole.Sign() == 0 {
			if none++; e != api.ErrZero || len(got) != 0 {
				t.Fatalf("%s, seen %v: %s, error %d; ErrZero is wanted", told(h), seen, rows(got), e)
			}
			return
		}
		some++
		same(t, "Smooth", h, seen, got, e, func(step, state int) *big.Rat {
			part := sum(l, func(at []int) bool { return at[step] == state })
			return part.Quo(part, whole)
		})
	})
	if some < 100 || none < 30 {
		t.Errorf("%d may be seen, %d may not", some, none)
	}
}

func TestNothingSeenH2(t *testing.T) {
	h := made(t, "2/4 1/2 | 2/3 1/3; 1/3 2/3 | 9/10 1/10; 1/5 4/5")
	for _, seen := range [][]int{nil, {}} {
		for i, f := range []func(api.Hidden, []int) ([][]api.Frac, api.Errno){hidden.Forward, hidden.Backward, hidden.Smooth} {
			if l, e := f(h, seen); len(l) != 0 || e != api.OK {
				t.Errorf("call %d: %s, error %d", i, rows(l), e)
			}
		}
		if p, e := hidden.Likely(h, seen); p != frac.Of(1) || e != api.OK {
			t.Errorf("Likely: %s, error %d", frac.Text(p), e)
		}
		if l, p, e := hidden.Path(h, seen); len(l) != 0 || p != frac.Of(1) || e != api.OK {
			t.Errorf("Path: %v, %s, error %d", l, frac.Text(p), e)
		}
	}
}

func TestPathH3(t *testing.T) {
	alike := 0
	eachDrawn(func(d *die, h api.Hidden, seen []int) {
		best, count := way{nil, new(big.Rat)}, 0
		for _, w := range ways(h, seen) {
			switch w.p.Cmp(best.p) {
			case 1:
				best, count = w, 1
			case 0:
				count++
			}
		}
		at, p, e := hidden.Path(h, seen)
		if best.p.Sign() == 0 {
			if e != api.ErrZero || len(at) != 0 || !isNone(p) {
				t.Fatalf("%s, seen %v: %v, %s, error %d; ErrZero is wanted", told(h), seen, at, frac.Text(p), e)
			}
			return
		}
		if count > 1 {
			alike++
		}
		if e != api.OK || !slices.Equal(at, best.at) || p != lowest(best.p) {
			t.Fatalf("%s, seen %v: %v, %s, error %d; %v, %s is wanted", told(h), seen, at, frac.Text(p), e, best.at, best.p)
		}
	})
	if alike < 20 {
		t.Errorf("%d have several likeliest ways", alike)
	}
}

func TestPathEdgesH3(t *testing.T) {
	for _, c := range []struct {
		text string
		seen []int
		want string
	}{
		{umbrella, []int{0, 0, 1}, "[0 0 1] 9/125"},
		{"1 | 1 | 1", []int{0, 0, 0, 0, 0, 0, 0, 0}, "[0 0 0 0 0 0 0 0] 1"},
		// All ways alike: the first one.
		{"1/2 1/2 | 1/2 1/2; 1/2 1/2 | 1; 1", []int{0, 0, 0}, "[0 0 0] 1/8"},
		// The first ways but one end where nothing goes on.
		{"1/2 1/2 | 0 1; 1 0 | 1 0; 1/2 1/2", []int{0, 0, 1}, "[1 0 1] 1/8"},
		// The likeliest state at first is not on the likeliest way.
		{"2/5 3/5 | 1 0; 1/2 1/2 | 1; 1", []int{0, 0}, "[0 0] 2/5"},
		{"3/5 2/5 | 1/2 1/2; 0 1 | 1; 1", []int{0, 0}, "[1 1] 2/5"},
	} {
		at, p, e := hidden.Path(made(t, c.text), c.seen)
		if got := fmt.Sprint(at, " ", frac.Text(p)); e != api.OK || got != c.want {
			t.Errorf("%s, seen %v: %s, error %d; %s is wanted", c.text, c.seen, got, e, c.want)
		}
	}
	never := made(t, "1 0 | 1 0; 0 1 | 1 0; 0 1")
	if at, p, e := hidden.Path(never, []int{0, 1}); e != api.ErrZero || len(at) != 0 || !isNone(p) {
		t.Errorf("what is never seen: %v, %s, error %d", at, frac.Text(p), e)
	}
	if l, e := hidden.Smooth(never, []int{0, 1}); e != api.ErrZero || len(l) != 0 {
		t.Errorf("what is never seen: %s, error %d", rows(l), e)
	}
	if p, e := hidden.Likely(never, []int{0, 1}); e != api.OK || p != frac.Of(0) {
		t.Errorf("what is never seen: %s, error %d", frac.Text(p), e)
	}
}

func TestUnrollH4(t *testing.T) {
	eachDrawn(func(d *die, h api.Hidden, seen []int) {
		for steps := range api.MaxVars/2 + 2 {
			n, e := hidden.Unroll(h, steps)
			if steps < 1 || steps > api.MaxVars/2 {
				if e != api.ErrLimit || !reflect.DeepEqual(n, api.Net{}) {
					t.Fatalf("%d steps: %v, error %d", steps, n, e)
				}
				continue
			}
			if e != api.OK || len(n.Vars) != 2*steps || len(n.Parents) != 2*steps || len(n.Rows) != 2*steps {
				t.Fatalf("%d steps: %v, error %d", steps, n, e)
			}
			for v, x := range n.Vars {
				name, size, parents, want := fmt.Sprint("s", v/2), len(h.Start), []int{v - 2}, slices.Concat(h.Move...)
				if v == 0 {
					parents, want = nil, slices.Clone(h.Start)
				}
				if v%2 == 1 {
					name, size, parents, want = fmt.Sprint("o", v/2), len(h.Show[0]), []int{v - 1}, slices.Concat(h.Show...)
				}
				for i, f := range want {
					want[i] = lowest(rat(f))
				}
				values := []string{"v0", "v1", "v2", "v3"}[:size]
				if x.Name != name || !slices.Equal(x.Values, values) || !slices.Equal(n.Parents[v], parents) || !slices.Equal(n.Rows[v], want) {
					t.Fatalf("%s, %d steps: %v %v %s", told(h), steps, x, n.Parents[v], texts(n.Rows[v]))
				}
			}
			if e := net.Check(n); e != api.OK {
				t.Fatalf("%s, %d steps: net.Check: error %d", told(h), steps, e)
			}
		}
	})
	for _, steps := range []int{-1, 5, math.MaxInt, math.MinInt} {
		if n, e := hidden.Unroll(made(t, umbrella), steps); e != api.ErrLimit || !reflect.DeepEqual(n, api.Net{}) {
			t.Errorf("%d steps: %v, error %d", steps, n, e)
		}
	}
}

// What is told of a hidden chain is what its net tells.
func TestNetTellsTheSame(t *testing.T) {
	eachDrawn(func(d *die, h api.Hidden, seen []int) {
		if len(seen) == 0 || len(seen) > api.MaxVars/2 {
			return
		}
		n, _ := hidden.Unroll(h, len(seen))
		var facts []api.Fact
		for step, sign := range seen {
			facts = append(facts, api.Fact{Var: 2*step + 1, Value: sign})
		}
		likely, _ := hidden.Likely(h, seen)
		if p, e := infer.Prob(n, facts); e != api.OK || p != likely {
			t.Fatalf("%s, seen %v: Likely %s, Prob %s, error %d", told(h), seen, frac.Text(likely), frac.Text(p), e)
		}
		smooth, e := hidden.Smooth(h, seen)
		for step := range seen {
			posterior, same := infer.Posterior(n, []int{2 * step}, facts)
			if e != same || e == api.OK && !slices.Equal(posterior.Cells, smooth[step]) {
				t.Fatalf("%s, seen %v: Smooth %s, error %d, Posterior at %d %s, error %d", told(h), seen, rows(smooth), e, step, texts(posterior.Cells), same)
			}
		}
		path, p, e := hidden.Path(h, seen)
		at, q, same := infer.Best(n, facts)
		if e != same || p != q {
			t.Fatalf("%s, seen %v: Path %v, error %d, Best %v, error %d", told(h), seen, path, e, at, same)
		}
		for step := range path {
			if path[step] != at[2*step] {
				t.Fatalf("%s, seen %v: Path %v, Best %v", told(h), seen, path, at)
			}
		}
	})
}

// P2: nothing that is handed in is written into, and what comes out is the caller's.
func TestFreshP2(t *testing.T) {
	eachDrawn(func(d *die, h api.Hidden, seen []int) {
		seen = append(make([]int, 0, 20), seen...)
		before := fmt.Sprint(h, seen[:20])
		type outcome struct {
			lists [3][][]api.Frac
			path  []int
			p     api.Frac
			net   api.Net
		}
		ask := func() (o outcome) {
			o.lists[0], _ = hidden.Forward(h, seen)
			o.lists[1], _ = hidden.Backward(h, seen)
			o.lists[2], _ = hidden.Smooth(h, seen)
			o.path, o.p, _ = hidden.Path(h, seen)
			o.net, _ = hidden.Unroll(h, 3)
			return o
		}
		first := ask()
		text := fmt.Sprint(first)
		numbers := slices.Concat(first.lists[0], first.lists[1], first.lists[2], first.net.Rows)
		for i := range numbers {
			_ = append(numbers[i], frac.Of(99))
		}
		for v := range first.net.Vars {
			_, _ = append(first.net.Vars[v].Values, "x"), append(first.net.Parents[v], 99)
		}
		if fmt.Sprint(first) != text {
			t.Fatalf("%s: lists of one answer share memory", told(h))
		}
		// Each list is spoilt by its own number: none may show another's.
		for k, l := range numbers {
			for i := range l {
				l[i] = frac.Of(k)
			}
		}
		for k, l := range numbers {
			if slices.ContainsFunc(l, func(f api.Frac) bool { return f != frac.Of(k) }) {
				t.Fatalf("%s: lists of one answer share memory", told(h))
			}
		}
		for v, x := range first.net.Vars {
			for i := range x.Values {
				x.Values[i] = fmt.Sprint(v)
			}
			for i := range first.net.Parents[v] {
				first.net.Parents[v][i] = 100 + v
			}
		}
		for v, x := range first.net.Vars {
			if x.Values[0] != fmt.Sprint(v) || v > 0 && first.net.Parents[v][0] != 100+v {
				t.Fatalf("%s: lists of one answer share memory", told(h))
			}
		}
		for i := range first.path {
			first.path[i] = 99
		}
		if fmt.Sprint(h, seen[:20]) != before || fmt.Sprint(ask()) != text {
			t.Fatalf("%s: what came out was not the caller's", told(h))
		}
	})
}

func TestExample(t *testing.T) {
	h, seen := made(t, umbrella), []int{0, 0, 1}
	if p, e := hidden.Likely(h, seen); e != api.OK || frac.Text(p) != "1121/9000" {
		t.Errorf("Likely: %s, error %d", frac.Text(p), e)
	}
	if l, e := hidden.Smooth(h, seen); e != api.OK || frac.Text(l[0][0]) != "963/1121" {
		t.Errorf("Smooth: %s, error %d", rows(l), e)
	}
	if at, p, e := hidden.Path(h, seen); e != api.OK || !slices.Equal(at, seen) || frac.Text(p) != "9/125" {
		t.Errorf("Path: %v, %s, error %d", at, frac.Text(p), e)
	}
}

// The greatest, with as many steps as there may be.
func TestGreatest(t *testing.T) {
	d := die(2)
	h := drawn(&d, api.MaxHidden, api.MaxHidden, 90)
	seen := []int{3, 1, 0, 2, 2, 0, 1, 3}
	l, e := hidden.Smooth(h, seen)
	all := ways(h, seen)
	whole := sum(all, anyWay)
	same(t, "Smooth", h, seen, l, e, func(step, state int) *big.Rat {
		part := sum(all, func(at []int) bool { return at[step] == state })
		return part.Quo(part, whole)
	})
}
