package chain_test

import (
	"fmt"
	"math"
	"math/big"
	"reflect"
	"slices"
	"strings"
	"testing"

	"augur/api"
	"augur/chain"
	"augur/frac"
)

// wrong are chains that may not be, and what is said of them.
func wrong(t *testing.T) []struct {
	m    [][]api.Frac
	want api.Errno
} {
	big := strings.Repeat("0 ", api.MaxStates) + "1"
	return []struct {
		m    [][]api.Frac
		want api.Errno
	}{
		{nil, api.ErrCount},
		{[][]api.Frac{}, api.ErrCount},
		{[][]api.Frac{nil}, api.ErrCount},
		{[][]api.Frac{{}, {}}, api.ErrCount},
		{made(t, strings.Repeat(big+";", api.MaxStates)+big), api.ErrCount},
		{made(t, "1 0"), api.ErrCount},
		{made(t, "1; 1"), api.ErrCount},
		{made(t, "1 0; 1"), api.ErrCount},
		{made(t, "1 0; 1 0 0"), api.ErrCount},
		{made(t, "1; 1 0"), api.ErrCount},
		{made(t, "1 0 0; 0 1; 1 0 0"), api.ErrCount},
		{made(t, "1/2"), api.ErrSum},
		{made(t, "0"), api.ErrSum},
		{[][]api.Frac{{{}}}, api.ErrSum},
		{[][]api.Frac{{{Num: "\x01"}}}, api.ErrSum},
		{made(t, "-1"), api.ErrSum},
		{made(t, "2"), api.ErrSum},
		{made(t, "1 0; 1/2 1/3"), api.ErrSum},
		{made(t, "1/2 2/3; 1/2 1/2"), api.ErrSum},
		{made(t, "1 0; 3/2 -1/2"), api.ErrSum},
		{made(t, "-1/2 3/2; 1 0"), api.ErrSum},
		{made(t, "1 -1/1000000007 1/1000000007; 0 1 0; 0 0 1"), api.ErrSum},
		// A wrong count is said ahead of a wrong sum, wherever it stands.
		{made(t, "1/2 0; 1"), api.ErrCount},
		{made(t, "-1 2; 1 0 0"), api.ErrCount},
		{made(t, "1/2; 1 0"), api.ErrCount},
	}
}

func TestCheckC1(t *testing.T) {
	for _, w := range wrong(t) {
		if e := chain.Check(w.m); e != w.want {
			t.Errorf("%s: error %d, %d is wanted", rows(w.m), e, w.want)
		}
	}
	for _, text := range []string{"1", "1 0; 0 1", "0 1; 1 0", "1/2 1/2; 2/6 4/6", "0.1 0.2 0.7; 1/3 1/3 1/3; 0 0 1"} {
		if e := chain.Check(made(t, text)); e != api.OK {
			t.Errorf("%s: error %d", text, e)
		}
	}
	eachDrawn(func(d *die, m [][]api.Frac) {
		if e := chain.Check(m); e != api.OK {
			t.Fatalf("%s: error %d", rows(m), e)
		}
	})
}

// faults calls all that is handed a chain, with wrong other arguments and with right ones: is it refused with this error, and nothing beside it (P1)?
func faults(t *testing.T, m [][]api.Frac, want api.Errno) {
	t.Helper()
	refuse := func(what string, none bool, e api.Errno) {
		t.Helper()
		if !none || e != want {
			t.Errorf("%s of %s: error %d, %d is wanted; nothing beside it: %v", what, rows(m), e, want, none)
		}
	}
	for _, p := range [][]api.Frac{nil, {frac.Of(1)}, slices.Repeat([]api.Frac{frac.Of(1)}, len(m)), slices.Repeat([]api.Frac{frac.Of(1)}, 9)} {
		l, e := chain.Step(p, m)
		refuse("Step", len(l) == 0, e)
	}
	for _, k := range []int{-1, 0, 1, 16, 17} {
		l, e := chain.Power(m, k)
		refuse("Power", len(l) == 0, e)
	}
	classes, closed, e := chain.Classes(m)
	refuse("Classes", len(classes) == 0 && len(closed) == 0, e)
	l, e := chain.Still(m)
	refuse("Still", len(l) == 0, e)
	for _, to := range [][]int{nil, {0}, {-1}, {1, 0}, {99}} {
		l, e := chain.Hits(m, to)
		refuse("Hits", len(l) == 0, e)
	}
	for _, i := range []int{-1, 0, 1, 99} {
		f, e := chain.Back(m, i)
		refuse("Back", isNone(f), e)
	}
	ok, e := chain.Turns(m)
	refuse("Turns", !ok, e)
}

func TestCheckFirstC1(t *testing.T) {
	for _, w := range wrong(t) {
		faults(t, w.m, w.want)
	}
}

func TestStepC1(t *testing.T) {
	eachDrawn(func(d *die, m [][]api.Frac) {
		var p, want []api.Frac
		for range m {
			// Any numbers go, not chances alone.
			p = append(p, odd(d, big.NewRat(int64(d.n(9)-4), int64(1+d.n(5)))))
		}
		for j := range m {
			sum := new(big.Rat)
			for i := range m {
				sum.Add(sum, new(big.Rat).Mul(rat(p[i]), rat(m[i][j])))
			}
			want = append(want, lowest(sum))
		}
		if got, e := chain.Step(p, m); e != api.OK || !slices.Equal(got, want) {
			t.Fatalf("%s in %s: %s, error %d; %s is wanted", texts(p), rows(m), texts(got), e, texts(want))
		}
	})
}

func TestStepFaultsC1(t *testing.T) {
	m := made(t, "1/2 1/2; 0 1")
	for _, text := range []string{"", "1", "1/2 1/4 1/4"} {
		if got, e := chain.Step(made(t, text)[0], m); e != api.ErrCount || len(got) != 0 {
			t.Errorf("Step of %q: %s, error %d", text, texts(got), e)
		}
	}
	if got, e := chain.Step(made(t, "3 -2")[0], m); e != api.OK || texts(got) != "3/2 -1/2" {
		t.Errorf("Step of numbers that are no chances: %s, error %d", texts(got), e)
	}
}

func TestPowerC1(t *testing.T) {
	eachDrawn(func(d *die, m [][]api.Frac) {
		k := d.n(6)
		if d.n(20) == 0 {
			k = 16
		}
		want := make([][]*big.Rat, len(m))
		for i := range want {
			for j := range m {
				want[i] = append(want[i], big.NewRat(int64(max(0, 1-max(i-j, j-i))), 1))
			}
		}
		for range k {
			next := make([][]*big.Rat, len(m))
			for i := range m {
				for j := range m {
					sum := new(big.Rat)
					for between := range m {
						sum.Add(sum, new(big.Rat).Mul(rat(m[i][between]), want[between][j]))
					}
					next[i] = append(next[i], sum)
				}
			}
			want = next
		}
		got, e := chain.Power(m, k)
		if e != api.OK || len(got) != len(m) {
			t.Fatalf("%s, %d steps: %s, error %d", rows(m), k, rows(got), e)
		}
		for i := range m {
			for j := range m {
				if len(got[i]) != len(m) || got[i][j] != lowest(want[i][j]) {
					t.Fatalf("%s, %d steps: %s; from %d to %d %s is wanted", rows(m), k, rows(got), i, j, want[i][j])
				}
			}
		}
	})
}

func TestPowerEdgesC1(t *testing.T) {
	m := made(t, "0 1; 1 0")
	for _, k := range []int{-1, 17, math.MaxInt, math.MinInt} {
		if got, e := chain.Power(m, k); e != api.ErrLimit || len(got) != 0 {
			t.Errorf("%d steps: %s, error %d", k, rows(got), e)
		}
	}
	for k := range 17 {
		want := []string{"1 0; 0 1", "0 1; 1 0"}[k%2]
		if got, e := chain.Power(m, k); e != api.OK || rows(got) != want {
			t.Errorf("%d steps: %s, error %d; %s is wanted", k, rows(got), e, want)
		}
	}
	// What one step more is is what Step says.
	d := die(5)
	m = drawn(&d, api.MaxStates, 1)
	ahead, _ := chain.Power(m, 15)
	whole, e := chain.Power(m, 16)
	for i, row := range ahead {
		if behind, _ := chain.Step(row, m); e != api.OK || !slices.Equal(behind, whole[i]) {
			t.Errorf("state %d: 16 steps are not one more than 15", i)
		}
	}
}

func TestClassesC2(t *testing.T) {
	eachDrawn(func(d *die, m [][]api.Frac) {
		var want [][]int
		var wantClosed []bool
		for i := range m {
			var class []int
			closed := true
			for j := range m {
				there, back := slices.Contains(reached(m, i), j), slices.Contains(reached(m, j), i)
				if there && back {
					class = append(class, j)
				}
				closed = closed && (!there || back)
			}
			if class[0] == i {
				want, wantClosed = append(want, class), append(wantClosed, closed)
			}
		}
		got, closed, e := chain.Classes(m)
		if e != api.OK || !reflect.DeepEqual(got, want) || !slices.Equal(closed, wantClosed) {
			t.Fatalf("%s: %v %v, error %d; %v %v is wanted", rows(m), got, closed, e, want, wantClosed)
		}
	})
}

func TestClassesEdgesC2(t *testing.T) {
	for _, c := range []struct{ text, want string }{
		{"1", "[[0]] [true]"},
		{"1 0; 0 1", "[[0] [1]] [true true]"},
		{"0 1; 1 0", "[[0 1]] [true]"},
		{"0 1; 0 1", "[[0] [1]] [false true]"}, // 0 never comes back, but comes to itself
		{"1 0; 1 0", "[[0] [1]] [true false]"},
		{"0 0 1; 0 1 0; 1 0 0", "[[0 2] [1]] [true true]"},
		{"0 0 0 1; 0 1/2 1/2 0; 0 1/3 1/3 1/3; 1 0 0 0", "[[0 3] [1 2]] [true false]"},
		{"0 1 0 0 0 0; 0 0 1 0 0 0; 0 0 0 1 0 0; 0 0 0 0 1 0; 0 0 0 0 0 1; 1 0 0 0 0 0", "[[0 1 2 3 4 5]] [true]"},
		{"0 0 0 0 0 1; 1 0 0 0 0 0; 0 1 0 0 0 0; 0 0 1 0 0 0; 0 0 0 1 0 0; 0 0 0 0 1 0", "[[0 1 2 3 4 5]] [true]"},
		{"0 1 0 0 0 0; 0 0 1 0 0 0; 0 0 0 1 0 0; 0 0 0 0 1 0; 0 0 0 0 0 1; 0 0 0 0 0 1", "[[0] [1] [2] [3] [4] [5]] [false false false false false true]"},
	} {
		classes, closed, e := chain.Classes(made(t, c.text))
		if got := fmt.Sprint(classes, closed); e != api.OK || got != c.want {
			t.Errorf("%s: %s, error %d; %s is wanted", c.text, got, e, c.want)
		}
	}
}

// As no other p is left as it is (but where ErrMany is said), it is enough that this one is.
func TestStillC3(t *testing.T) {
	some, many := 0, 0
	eachDrawn(func(d *die, m [][]api.Frac) {
		got, e := chain.Still(m)
		if closedCount(m) > 1 {
			if many++; e != api.ErrMany || len(got) != 0 {
				t.Fatalf("%s: %s, error %d; ErrMany is wanted", rows(m), texts(got), e)
			}
			return
		}
		some++
		if e != api.OK || len(got) != len(m) {
			t.Fatalf("%s: %s, error %d", rows(m), texts(got), e)
		}
		whole := new(big.Rat)
		for i, f := range got {
			into := new(big.Rat)
			for from := range m {
				into.Add(into, new(big.Rat).Mul(rat(got[from]), rat(m[from][i])))
			}
			if rat(f).Sign() < 0 || into.Cmp(rat(f)) != 0 || f != lowest(rat(f)) {
				t.Fatalf("%s: %s; not still at %d", rows(m), texts(got), i)
			}
			whole.Add(whole, rat(f))
		}
		if whole.Cmp(big.NewRat(1, 1)) != 0 {
			t.Fatalf("%s: %s: not 1 together", rows(m), texts(got))
		}
		if behind, e := chain.Step(got, m); e != api.OK || !slices.Equal(behind, got) {
			t.Fatalf("%s: Step does not leave %s as it is", rows(m), texts(got))
		}
	})
	if some < 100 || many < 50 {
		t.Errorf("%d chains with one closed class, %d with more", some, many)
	}
}

func TestStillEdgesC3(t *testing.T) {
	for _, c := range []struct{ text, want string }{
		{"1", "1"},
		{"0 1; 0 1", "0 1"},
		{"1 0; 1 0", "1 0"},
		{"0 1; 1 0", "1/2 1/2"},
		{"0 1 0; 1/2 0 1/2; 0 1 0", "1/4 1/2 1/4"},
		{"0 1 0; 0 0 1; 1 0 0", "1/3 1/3 1/3"},
		{"1/2 1/4 1/4; 0 0 1; 0 1 0", "0 1/2 1/2"},
		{"9/10 1/10; 1/5 4/5", "2/3 1/3"},
	} {
		got, e := chain.Still(made(t, c.text))
		if e != api.OK || texts(got) != c.want {
			t.Errorf("%s: %s, error %d; %s is wanted", c.text, texts(got), e, c.want)
		}
	}
	for _, text := range []string{"1 0; 0 1", "1 0 0; 1/2 0 1/2; 0 0 1", "0 1 0 0; 1 0 0 0; 0 0 0 1; 0 0 1 0", "1 0 0 0; 1/2 0 1/2 0; 0 1/2 0 1/2; 0 0 0 1"} {
		if got, e := chain.Still(made(t, text)); e != api.ErrMany || len(got) != 0 {
			t.Errorf("%s: %s, error %d; ErrMany is wanted", text, texts(got), e)
		}
		if ok, e := chain.Turns(made(t, text)); e != api.ErrMany || ok {
			t.Errorf("%s: Turns: %v, error %d; ErrMany is wanted", text, ok, e)
		}
	}
}

// hitsBy is how likely each state comes to one of to: 0 where no way leads there, else by determinants.
func hitsBy(t *testing.T, m [][]api.Frac, to []int) []api.Frac {
	var equations [][]*big.Rat
	var right []*big.Rat
	for i, row := range rats(m) {
		is := slices.Contains(to, i)
		never := !slices.ContainsFunc(to, func(j int) bool { return slices.Contains(reached(m, i), j) })
		one := big.NewRat(1, 1)
		right = append(right, new(big.Rat))
		if is {
			right[i].Set(one)
		}
		for j := range row {
			if is || never {
				row[j] = new(big.Rat)
			}
			row[j].Neg(row[j])
		}
		row[i].Add(row[i], one)
		equations = append(equations, row)
	}
	var l []api.Frac
	for _, r := range solved(t, equations, right) {
		l = append(l, lowest(r))
	}
	return l
}

func TestHitsC3(t *testing.T) {
	eachDrawn(func(d *die, m [][]api.Frac) {
		var to []int
		for j := range m {
			if d.n(3) == 0 {
				to = append(to, j)
			}
		}
		want := hitsBy(t, m, to)
		if got, e := chain.Hits(m, to); e != api.OK || !slices.Equal(got, want) {
			t.Fatalf("%s to %v: %s, error %d; %s is wanted", rows(m), to, texts(got), e, texts(want))
		}
	})
}

func TestHitsEdgesC3(t *testing.T) {
	game := "1 0 0 0; 1/2 0 1/2 0; 0 1/2 0 1/2; 0 0 0 1"
	for _, c := range []struct {
		text string
		to   []int
		want string
	}{
		{game, []int{3}, "0 1/3 2/3 1"},
		{game, []int{0}, "1 2/3 1/3 0"},
		{game, []int{0, 3}, "1 1 1 1"},
		{game, []int{1}, "0 1 1/2 0"},
		{game, nil, "0 0 0 0"},
		{game, []int{0, 1, 2, 3}, "1 1 1 1"},
		{"1", nil, "0"},
		{"1", []int{0}, "1"},
		{"0 1; 0 1", []int{0}, "1 0"},
		{"0 1; 0 1", []int{1}, "1 1"},
		// Where to is left and come to again: to begin there is enough.
		{"0 1; 1 0", []int{0}, "1 1"},
		{"1/2 1/2 0; 0 1 0; 0 0 1", []int{2}, "0 0 1"},
	} {
		if got, e := chain.Hits(made(t, c.text), c.to); e != api.OK || texts(got) != c.want {
			t.Errorf("%s to %v: %s, error %d; %s is wanted", c.text, c.to, texts(got), e, c.want)
		}
	}
	for _, to := range [][]int{{-1}, {4}, {1, 0}, {1, 1}, {0, 4}, {-1, 2}, {math.MaxInt}, {math.MinInt}, {0, 2, 1}, {0, 1, 2, 3, 4}} {
		if got, e := chain.Hits(made(t, game), to); e != api.ErrVar || len(got) != 0 {
			t.Errorf("to %v: %s, error %d; ErrVar is wanted", to, texts(got), e)
		}
	}
}

// backBy is how many steps it takes to come back to i, by determinants: one, and of each other state of the class how many it takes from there.
func backBy(t *testing.T, m [][]api.Frac, i int) api.Frac {
	var others []int
	for _, j := range reached(m, i) {
		if j != i {
			others = append(others, j)
		}
	}
	var equations [][]*big.Rat
	var right []*big.Rat
	for k, from := range others {
		var row []*big.Rat
		for _, to := range others {
			row = append(row, new(big.Rat).Neg(rat(m[from][to])))
		}
		row[k].Add(row[k], big.NewRat(1, 1))
		equations, right = append(equations, row), append(right, big.NewRat(1, 1))
	}
	sum := big.NewRat(1, 1)
	for k, r := range solved(t, equations, right) {
		sum.Add(sum, r.Mul(r, rat(m[i][others[k]])))
	}
	return lowest(sum)
}

func TestBackC3(t *testing.T) {
	closed, open := 0, 0
	eachDrawn(func(d *die, m [][]api.Frac) {
		for i := range m {
			got, e := chain.Back(m, i)
			if !slices.Contains(closedStates(m), i) {
				if open++; e != api.ErrState || !isNone(got) {
					t.Fatalf("%s, %d: %s, error %d; ErrState is wanted", rows(m), i, frac.Text(got), e)
				}
				continue
			}
			closed++
			if want := backBy(t, m, i); e != api.OK || got != want {
				t.Fatalf("%s, %d: %s, error %d; %s is wanted", rows(m), i, frac.Text(got), e, frac.Text(want))
			}
			// The one closed class: what Still says times Back is 1.
			if still, e := chain.Still(m); e == api.OK && frac.Mul(still[i], got) != frac.Of(1) {
				t.Fatalf("%s, %d: Still %s, Back %s", rows(m), i, frac.Text(still[i]), frac.Text(got))
			}
		}
	})
	if closed < 500 || open < 100 {
		t.Errorf("%d closed states, %d open ones", closed, open)
	}
}

func TestBackEdgesC3(t *testing.T) {
	for _, c := range []struct {
		text string
		i    int
		want string
	}{
		{"1", 0, "1"}, {"0 1; 1 0", 1, "2"}, {"0 1 0; 1/2 0 1/2; 0 1 0", 0, "4"}, {"0 1 0; 1/2 0 1/2; 0 1 0", 1, "2"},
		{"0 1; 0 1", 1, "1"},
		// Several closed classes: Back is of the state's own.
		{"1 0 0; 0 0 1; 0 1 0", 0, "1"}, {"1 0 0; 0 0 1; 0 1 0", 2, "2"},
	} {
		if got, e := chain.Back(made(t, c.text), c.i); e != api.OK || frac.Text(got) != c.want {
			t.Errorf("%s, %d: %s, error %d; %s is wanted", c.text, c.i, frac.Text(got), e, c.want)
		}
	}
	for _, i := range []int{-1, 2, 3, math.MaxInt, math.MinInt} {
		if got, e := chain.Back(made(t, "0 1; 0 1"), i); e != api.ErrVar || !isNone(got) {
			t.Errorf("%d: %s, error %d; ErrVar is wanted", i, frac.Text(got), e)
		}
	}
	if got, e := chain.Back(made(t, "0 1; 0 1"), 0); e != api.ErrState || !isNone(got) {
		t.Errorf("a state that is left: %s, error %d; ErrState is wanted", frac.Text(got), e)
	}
}

// eachRound goes through all rounds of different states of the list, each begun with round.
func eachRound(l, round []int, try func(round []int) bool) bool {
	if len(round) > 0 && !try(round) {
		return false
	}
	for _, j := range l {
		if !slices.Contains(round, j) && !eachRound(l, append(slices.Clone(round), j), try) {
			return false
		}
	}
	return true
}

func TestTurnsC3(t *testing.T) {
	yes, no := 0, 0
	eachDrawn(func(d *die, m [][]api.Frac) {
		got, e := chain.Turns(m)
		if closedCount(m) > 1 {
			if e != api.ErrMany || got {
				t.Fatalf("%s: %v, error %d; ErrMany is wanted", rows(m), got, e)
			}
			return
		}
		numbers := rats(m)
		// As likely one way round as the other: it turns just where all rounds are.
		want := eachRound(closedStates(m), nil, func(round []int) bool {
			forth, back := big.NewRat(1, 1), big.NewRat(1, 1)
			for k, i := range round {
				j := round[(k+1)%len(round)]
				forth.Mul(forth, numbers[i][j])
				back.Mul(back, numbers[j][i])
			}
			return forth.Cmp(back) == 0
		})
		if e != api.OK || got != want {
			t.Fatalf("%s: %v, error %d; %v is wanted", rows(m), got, e, want)
		}
		if want {
			yes++
		} else {
			no++
		}
	})
	if yes < 50 || no < 50 {
		t.Errorf("%d turn, %d do not", yes, no)
	}
}

func TestTurnsEdgesC3(t *testing.T) {
	for text, want := range map[string]bool{
		"1": true, "0 1; 1 0": true, "9/10 1/10; 1/5 4/5": true, "0 1 0; 1/2 0 1/2; 0 1 0": true,
		"0 1; 0 1":                              true, // nothing goes from what has nothing
		"0 1 0; 0 0 1; 1 0 0":                   false,
		"1/3 1/3 1/3; 1/3 1/3 1/3; 1/3 1/3 1/3": true,
		"0 2/3 1/3; 1/3 0 2/3; 2/3 1/3 0":       false,
		"0 1/2 1/2; 0 0 1; 0 1 0":               true,
	} {
		if got, e := chain.Turns(made(t, text)); e != api.OK || got != want {
			t.Errorf("%s: %v, error %d; %v is wanted", text, got, e, want)
		}
	}
}

// Numbers of many digits, and none in common.
func TestLongNumbersC3(t *testing.T) {
	d := die(3)
	var m [][]api.Frac
	for range api.MaxStates {
		var weights []*big.Int
		sum := new(big.Int)
		for range api.MaxStates {
			w := new(big.Int)
			for range 12 {
				w.Add(w.Lsh(w, 8), big.NewInt(int64(1+d.n(255))))
			}
			weights = append(weights, w)
			sum.Add(sum, w)
		}
		var row []api.Frac
		for _, w := range weights {
			row = append(row, api.Frac{Num: api.Nat(w.Bytes()), Den: api.Nat(sum.Bytes())})
		}
		m = append(m, row)
	}
	still, e := chain.Still(m)
	if behind, _ := chain.Step(still, m); e != api.OK || !slices.Equal(behind, still) {
		t.Errorf("Still: error %d", e)
	}
	for i := range m {
		if got, e := chain.Back(m, i); e != api.OK || got != backBy(t, m, i) {
			t.Errorf("Back %d: error %d", i, e)
		}
	}
	many, e := chain.Power(m, 16)
	if e != api.OK || chain.Check(many) != api.OK {
		t.Errorf("Power: error %d", e)
	}
}

// P2: nothing that is handed in is written into, and what comes out is the caller's.
func TestFreshP2(t *testing.T) {
	eachDrawn(func(d *die, m [][]api.Frac) {
		p := append(make([]api.Frac, 0, 20), m[0]...)
		to := append(make([]int, 0, 20), 0)
		before := fmt.Sprint(m, p[:20], to[:20])
		type outcome struct {
			step, still, hits []api.Frac
			power             [][]api.Frac
			classes           [][]int
			closed            []bool
			back              api.Frac
			turns             bool
		}
		ask := func() (o outcome) {
			o.step, _ = chain.Step(p, m)
			o.power, _ = chain.Power(m, 3)
			o.classes, o.closed, _ = chain.Classes(m)
			o.still, _ = chain.Still(m)
			o.hits, _ = chain.Hits(m, to)
			o.back, _ = chain.Back(m, 0)
			o.turns, _ = chain.Turns(m)
			return o
		}
		first := ask()
		text := fmt.Sprint(first)
		for i := range first.classes {
			_ = append(first.classes[i], 99)
		}
		for i := range first.power {
			_ = append(first.power[i], frac.Of(99))
		}
		if fmt.Sprint(first) != text {
			t.Fatalf("%s: lists of one answer share memory", rows(m))
		}
		for _, l := range append(first.power, first.step, first.still, first.hits) {
			for i := range l {
				l[i] = frac.Of(99)
			}
		}
		for _, l := range first.classes {
			for i := range l {
				l[i] = 99
			}
		}
		for i := range first.closed {
			first.closed[i] = !first.closed[i]
		}
		if fmt.Sprint(m, p[:20], to[:20]) != before || fmt.Sprint(ask()) != text {
			t.Fatalf("%s: what came out was not the caller's", rows(m))
		}
	})
}

func TestExample(t *testing.T) {
	m := made(t, "0 1 0; 1/2 0 1/2; 0 1 0")
	if still, e := chain.Still(m); e != api.OK || texts(still) != "1/4 1/2 1/4" {
		t.Errorf("Still: %s, error %d", texts(still), e)
	}
	if back, e := chain.Back(m, 0); e != api.OK || frac.Text(back) != "4" {
		t.Errorf("Back: %s, error %d", frac.Text(back), e)
	}
	m = made(t, "1 0 0 0; 1/2 0 1/2 0; 0 1/2 0 1/2; 0 0 0 1")
	if hits, e := chain.Hits(m, []int{3}); e != api.OK || texts(hits) != "0 1/3 2/3 1" {
		t.Errorf("Hits: %s, error %d", texts(hits), e)
	}
	if _, e := chain.Still(m); e != api.ErrMany {
		t.Errorf("Still: error %d", e)
	}
}
