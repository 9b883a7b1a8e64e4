package mean_test

import (
	"fmt"
	"math"
	"math/big"
	"slices"
	"strings"
	"testing"

	"augur/api"
	"augur/mean"
	"augur/script"
)

// labelled is the order of draws, which are ranges of one value.
func labelled(t *testing.T, text string) string {
	t.Helper()
	l, e := mean.Draws(parsed(t, text))
	if e != api.OK {
		t.Fatalf("%q: %d", text, e)
	}
	var s []string
	for _, d := range l {
		s = append(s, fmt.Sprint(d.Lo))
	}
	return strings.Join(s, " ")
}

func TestOrderM1(t *testing.T) {
	f := "fn f ( a ) { a ~ range 1 1; return a; } fn g ( a , b ) { a ~ range 2 2; let c = f(a); b ~ range 3 3; return f(b); } fn h ( ) { return 9; } "
	for text, want := range map[string]string{
		"return 1;": "",
		"let x ~ range 4 4; x ~ range 5 5; let y ~ range 6 6; return x;":                                                              "4 5 6",
		"repeat 3 { let x ~ range 4 4; if 1 { x ~ range 5 5; } else { x ~ range 6 6; x ~ range 7 7; } } let y ~ range 8 8; return 1;": "4 5 6 7 4 5 6 7 4 5 6 7 8",
		"repeat 2 { repeat 2 { let x ~ range 4 4; } let x ~ range 5 5; } return 1;":                                                   "4 4 5 4 4 5",
		"repeat 0 { let x ~ range 4 4; } let x ~ range 5 5; return x;":                                                                "5",
		"if 0 { let x ~ range 4 4; } else { let x ~ range 5 5; } return 1;":                                                           "4 5",
		"if 0 { } else { let x ~ range 5 5; } let y ~ range 6 6; return 1;":                                                           "5 6",
		"observe 0; let x ~ range 4 4; return 1 / 0;":                                                                                 "4",
		f + "return f(1);":                      "1",
		f + "return g(1, 2);":                   "2 1 3 1",
		f + "return h();":                       "",
		f + "return f(f(f(1)));":                "1 1 1",
		f + "return g(f(1), g(1, 2));":          "1 2 1 3 1 2 1 3 1",
		f + "return g(g(1, f(1)), h()) + f(1);": "1 2 1 3 1 2 1 3 1 1",
		f + "return g(1, 2) - f(1) * g(1, 2);":  "2 1 3 1 1 2 1 3 1",
		f + "if g(1, 2) { let x ~ range 4 4; } else { let x = f(1); } return 1;":                                                         "2 1 3 1 4 1",
		f + "let x = f(1); x ~ range 4 4; x = f(2); observe g(x, x) or f(x); x ~ range 5 5; return x;":                                   "1 4 1 2 1 3 1 1 5",
		f + "repeat 2 { if f(1) and h() { if g(1, 2) { let x ~ range 4 4; } } else { observe not f(1); } let x ~ range 5 5; } return 1;": "1 2 1 3 1 4 1 5 1 2 1 3 1 4 1 5",
		"fn unused ( ) { let x ~ range 4 4; return 1; } return 1;":                                                                       "",
	} {
		if got := labelled(t, text); got != want {
			t.Errorf("%q: %s, not %s", text, got, want)
		}
	}
}

func TestDrawsM1(t *testing.T) {
	l, e := mean.Draws(parsed(t, "let x ~ flip 2/8; repeat 2 { x ~ pick { 5 : 1/2, - 5 : 2/8, 5 : 1/4 }; } x ~ range -1 2; return x;"))
	pick := api.Draw{Kind: api.Pick, Values: []int{5, -5, 5}, Weights: []api.Frac{over(1, 2), over(1, 4), over(1, 4)}}
	want := []api.Draw{{Kind: api.Flip, P: over(1, 4)}, pick, pick, {Kind: api.Range, Lo: -1, Hi: 2}}
	if e != api.OK || toldDraws(l) != toldDraws(want) {
		t.Errorf("%d %s, not %s", e, toldDraws(l), toldDraws(want))
	}
}

// TestOutcomesM1: which outcomes a draw has, by their numbers, and how likely they are.
func TestOutcomesM1(t *testing.T) {
	for text, want := range map[string][]int{"flip 1/4": {0, 1}, "flip 0": {0, 1}, "range -2 1": {-2, -1, 0, 1}, "range 7 7": {7}, "range 984 999": {984, 985, 986, 987, 988, 989, 990, 991, 992, 993, 994, 995, 996, 997, 998, 999}, "pick { 5 : 1/2, - 999 : 1/4, 5 : 0, 4 : 1/4 }": {5, -999, 5, 4}} {
		for i, v := range append(want, want[0], want[0]) { // those that are not there are the first one
			goes(t, "let x ~ "+text+"; return x;", valued(v), i)
			goes(t, "let x = 0; x ~ "+text+"; return x;", valued(v), i)
		}
	}
	runs(t, "let x ~ flip 1/4; return x;", answerOf(t, "0", "0", "0 3/4", "1 1/4"))
	runs(t, "let x ~ range -2 0; return x;", answerOf(t, "0", "0", "-2 1/3", "-1 1/3", "0 1/3"))
	runs(t, "let x ~ pick { 5 : 1/2, - 3 : 1/3, 5 : 1/6 }; return x;", answerOf(t, "0", "0", "-3 1/3", "5 2/3"))
}

func TestCheckFirstM1(t *testing.T) {
	for text, want := range map[string]api.Errno{
		"let x = 1; let x = 2; return x;": api.ErrDouble, "return x;": api.ErrName, "fn f ( a ) { return a; } return f();": api.ErrCount, "let x ~ flip 3/2; return x;": api.ErrSum, "let x ~ range 0 16; return x;": api.ErrLimit, "let x ~ pick { 1 : 1/2 }; return x;": api.ErrSum,
		"repeat 13 { let x ~ flip 1/2; } return 1;": api.ErrMany, "repeat 16 { repeat 16 { repeat 16 { let x = 1; x = 2; } } } return 1;": api.ErrLong,
	} {
		refused(t, text, want, parsed(t, text))
	}
	one := api.Expr{Op: api.Number, N: 1}
	deep := one
	for range 17 {
		deep = api.Expr{Op: api.Not, Args: []api.Expr{deep}}
	}
	giving := func(e api.Expr) api.Prog { return api.Prog{Body: []api.Stmt{{Kind: api.Return, Expr: e}}} }
	refused(t, "nothing", api.ErrForm, api.Prog{})
	refused(t, "no expression", api.ErrForm, giving(api.Expr{}))
	refused(t, "too deep", api.ErrDeep, giving(deep))
	refused(t, "too many arguments", api.ErrLimit, giving(api.Expr{Op: api.Use, Name: "f", Args: slices.Repeat([]api.Expr{one}, 5)}))
	refused(t, "a number that is too great", api.ErrForm, giving(api.Expr{Op: api.Number, N: math.MinInt}))
}

// TestSpoiltP1: programs with a field that has anything.
func TestSpoiltP1(t *testing.T) {
	d := die(5)
	refusals := 0
	for range 2000 {
		p := made(&d)
		steps := p.Body
		if len(p.Defs) > 0 && d.n(2) == 0 {
			steps = p.Defs[d.n(len(p.Defs))].Body
		}
		s := &steps[d.n(len(steps))]
		any := []int{-1, 0, 1, 9, math.MaxInt, math.MinInt}[d.n(6)]
		switch d.n(7) {
		case 0:
			s.Kind = any
		case 1:
			s.Name = "v9"
		case 2:
			s.Expr.Op = any
		case 3:
			s.Draw.Kind = any
		case 4:
			s.Body, s.Else = s.Else, s.Body
		case 5:
			s.N = any
		case 6:
			s.Expr.Args = append(slices.Clone(s.Expr.Args), api.Expr{Op: api.Name, Name: "v8"})
		}
		if e := script.Check(p); e != api.OK {
			refusals++
			refused(t, toldProg(p), e, p)
		}
	}
	if refusals < 1000 {
		t.Error("few refusals:", refusals)
	}
}

func TestFreshP2(t *testing.T) {
	p := parsed(t, "fn f ( a ) { a ~ pick { 1 : 1/2, 2 : 1/2 }; return a; } repeat 2 { let x ~ pick { 3 : 1/4, 4 : 3/4 }; } return f(f(1));")
	before := toldProg(p)
	l, _ := mean.Draws(p)
	want := toldDraws(l)
	for i, d := range l {
		rest := toldDraws(l[i+1:])
		for k := range d.Values {
			d.Values[k], d.Weights[k] = 77, api.Frac{Neg: true}
		}
		_ = append(append(d.Values, 1)[:0], append(d.Values, 2)...)
		if toldDraws(l[i+1:]) != rest {
			t.Error("draws share lists")
		}
	}
	choices := []int{1, 5, -1, 1, 1}
	mean.One(p, choices)
	a, _ := mean.Run(p)
	answer := toldAnswer(a)
	a.Points[0] = api.Point{}
	if b, _ := mean.Run(p); toldAnswer(b) != answer {
		t.Error("a second answer is another one")
	}
	if l, _ = mean.Draws(p); toldDraws(l) != want || toldProg(p) != before || !slices.Equal(choices, []int{1, 5, -1, 1, 1}) {
		t.Error("what is handed in or out is shared, or changed")
	}
}

func TestValuesM2(t *testing.T) {
	for text, want := range map[string]int{
		"7": 7, "- 7": -7, "0": 0, "999": 999, "- 999": -999, "2 + 3": 5, "2 - 3": -1, "2 - - 3": 5, "7 * - 6": -42, "31 * 32": 992, "998 + 1": 999, "- 998 - 1": -999, "333 * 3": 999, "333 * - 3": -999, "1 + 2 * 3 - 4": 3, "2 - 3 - 4": -5, "2 - (3 - 4)": 3,
		"7 / 2": 3, "- 7 / 2": -3, "7 / - 2": -3, "- 7 / - 2": 3, "1 / 2": 0, "- 1 / 2": 0, "6 / 3": 2, "- 999 / - 1": 999, "999 / - 1": -999, "0 / 5": 0, "1 / 999": 0,
		"7 % 2": 1, "- 7 % 2": -1, "7 % - 2": 1, "- 7 % - 2": -1, "6 % 3": 0, "- 999 % - 1": 0, "3 % 5": 3, "- 3 % 5": -3, "999 % 1": 0, "999 % 998": 1,
		"0 or 0": 0, "5 or 0": 1, "0 or - 5": 1, "3 or 4": 1, "0 and 0": 0, "5 and 0": 0, "0 and - 5": 0, "3 and - 4": 1, "not 0": 1, "not 1": 0, "not - 5": 0, "not not 7": 1,
		"3 == 3": 1, "3 == 4": 0, "3 != 3": 0, "3 != 4": 1, "3 < 4": 1, "4 < 4": 0, "5 < 4": 0, "3 <= 4": 1, "4 <= 4": 1, "5 <= 4": 0, "3 > 4": 0, "4 > 4": 0, "5 > 4": 1, "3 >= 4": 0, "4 >= 4": 1, "5 >= 4": 1, "- 5 < - 4": 1, "- 5 > 4": 0,
		"not 1 == 2 and 3": 1, "1 - 1 or 2 * 0": 0,
	} {
		goes(t, "return "+text+";", valued(want))
		runs(t, "return "+text+";", api.Answer{Points: []api.Point{{Value: want, P: over(1, 1)}}, Stuck: over(0, 1), Lost: over(0, 1)})
	}
}

func TestStuckM2(t *testing.T) {
	for _, text := range []string{
		"999 + 1", "1 + 999", "- 999 - 1", "- 999 + - 1", "999 - - 1", "32 * 32", "500 * 2", "500 * - 2", "- 999 * 999", "- 999 * - 999", "1 / 0", "0 / 0", "- 5 / 0", "1 % 0", "0 % 0", "5 / (3 - 3)", "999 + 1 - 1", "(999 + 1) * 0",
		"1 or 1 / 0", "0 and 1 / 0", "1 / 0 or 1", "0 == 1 / 0", "not 1 % 0", "0 * (1 / 0)", "1 or (0 and (2 / (1 - 1)))",
	} {
		goes(t, "return "+text+";", stuck())
		goes(t, "let x = "+text+"; return 1;", stuck())
		goes(t, "let x = 1; x = "+text+"; return 1;", stuck())
		goes(t, "if "+text+" { } return 1;", stuck())
		goes(t, "observe "+text+"; return 1;", stuck())
		goes(t, "fn f ( a ) { return 1; } return f("+text+");", stuck())
		goes(t, "fn f ( ) { return "+text+"; } observe f(); return 1;", stuck())
		goes(t, "fn f ( a ) { if a { a = "+text+"; } return 1; } repeat 2 { observe f(1); } return 1;", stuck())
		goes(t, "if 0 { let x = "+text+"; } repeat 0 { observe "+text+"; } return 1;", valued(1))
	}
	runs(t, "return 1 / 0;", answerOf(t, "1", "0"))
}

func TestLostM2(t *testing.T) {
	for text, want := range map[string]api.Outcome{
		"observe 0; return 1;": lost(), "observe 1; return 1;": valued(1), "observe - 1; return 1;": valued(1), "observe 999; return 1;": valued(1), "observe 1 - 1; return 1 / 0;": lost(), "observe 3 > 4; return 1;": lost(),
		"let x = 1; repeat 3 { observe x < 3; x = x + 1; } return x;": lost(), "let x = 1; repeat 2 { observe x < 3; x = x + 1; } return x;": valued(3), "if 0 { observe 0; } repeat 0 { observe 0; } return 1;": valued(1), "if 1 { observe 0; } return 1;": lost(), "if 0 { } else { observe 0; } return 1;": lost(),
	} {
		goes(t, text, want)
		goes(t, "fn f ( ) { "+text+" } return f();", want)
		goes(t, "fn f ( ) { "+text+" } fn g ( a ) { return f() * a; } let x = g(1); return x;", want)
	}
	runs(t, "observe 0; return 1;", answerOf(t, "0", "1"))
}

// TestFirstEndM2: what ends a way ends it there, whatever stands behind; parts are worked out from the left.
func TestFirstEndM2(t *testing.T) {
	f := "fn lose ( ) { observe 0; return 1; } fn two ( a , b ) { return 1; } fn stick ( a ) { return 1 / 0; } "
	for text, want := range map[string]api.Outcome{
		"return lose() + 1 / 0;": lost(), "return 1 / 0 + lose();": stuck(), "return two(lose(), 1 / 0);": lost(), "return two(1 / 0, lose());": stuck(), "return stick(lose());": lost(), "return two(stick(1), lose());": stuck(), "return 1 or lose();": lost(), "return 0 and lose();": lost(), "return 1 / 0 and lose();": stuck(), "return 0 * (lose() / 0);": lost(), "return (lose() == 1) / 0;": lost(),
		"let x = 1 / 0; observe 0; return 1;": stuck(), "observe 0; let x = 1 / 0; return 1;": lost(), "if lose() { let x = 1 / 0; } return 1;": lost(), "repeat 2 { observe 0; observe 1 / 0; } return 1;": lost(), "repeat 2 { let x = 1 / 0; observe 0; } return 1;": stuck(),
	} {
		goes(t, f+text, want)
	}
	// what stands behind is not drawn: the draw's chances are no matter
	runs(t, "let x ~ flip 1/3; observe x; let y ~ range 1 4; return y;", answerOf(t, "0", "2/3", "1 1/12", "2 1/12", "3 1/12", "4 1/12"))
	runs(t, "let x ~ flip 1/3; let y = 1 / x; let z ~ range 1 4; return z;", answerOf(t, "2/3", "0", "1 1/12", "2 1/12", "3 1/12", "4 1/12"))
}

func TestStepsM2(t *testing.T) {
	for text, want := range map[string]int{
		"let x = 1; let y = x; x = 5; return 10 * x + y;":                                                                               51,
		"let x = 1; x = x + x; x = x + x; return x;":                                                                                    4,
		"let x = 0; if 1 { x = 2; } else { x = 3; } return x;":                                                                          2,
		"let x = 0; if 0 { x = 2; } else { x = 3; } return x;":                                                                          3,
		"let x = 0; if - 1 { x = 2; } return x;":                                                                                        2,
		"let x = 1; if 0 { x = 2; } return x;":                                                                                          1,
		"let x = 1; if x { x = 0; } else { x = 7; } return x;":                                                                          0,
		"let n = 0; repeat 0 { n = n + 1; } return n;":                                                                                  0,
		"let n = 0; repeat 16 { repeat 16 { n = n + 1; } } return n;":                                                                   256,
		"let n = 0; repeat 3 { let k = n; n = n + k + 1; } return n;":                                                                   7,
		"if 1 { let x = 5; } let x = 6; return x;":                                                                                      6,
		"let y = 0; if 1 { let x = 5; y = x; } else { let x = 6; y = x; } if 0 { } else { let x = 7; y = y * 10 + x; } return y;":       57,
		"fn f ( a ) { a = a + 1; return a; } let a = 1; let b = f(a); return 10 * a + b;":                                               12,
		"fn f ( a ) { let x = a; x = x + 1; return x; } let x = 1; let y = f(f(x)); return 10 * x + y;":                                 13,
		"fn f ( a , b ) { return 10 * a + b; } let a = 1; let b = 2; return f(b, a);":                                                   21,
		"fn f ( a , b , c , d ) { return a * 100 + b * 10 + c - d; } return f(1, 2, 3, 4);":                                             119,
		"fn f ( a ) { return a + 1; } fn g ( a ) { let b = f(a); a = f(b); return 10 * a + b; } let a = 3; let b = g(a); return b - a;": 51,
		"fn f ( x ) { if x { let y = 2; x = y; } let y = 3; return x + y; } let y = 4; repeat 2 { let x = f(y); y = x; } return y;":     5,
		"fn f ( ) { return 5; } let f = 2; return f * f();":                                                                             10,
		"fn f ( a ) { return a; } fn g ( a , b ) { return a - b; } return g(f(9), g(f(3), f(1)));":                                      7,
		"let x = 1; repeat 3 { if x % 2 { let y = x; x = y + y; } else { let y = 1; x = x + y; } } return x;":                           6,
		"let x = 9; let r = 0; repeat 2 { let q = x; r = r * 10 + q; x = 8; } return r;":                                                98,
	} {
		goes(t, text, valued(want))
		runs(t, text, api.Answer{Points: []api.Point{{Value: want, P: over(1, 1)}}, Stuck: over(0, 1), Lost: over(0, 1)})
	}
}

// TestChoicesM2: each draw has a number, whether the way comes to those ahead of it or not.
func TestChoicesM2(t *testing.T) {
	two := "let x ~ range 0 3; let y ~ range 0 3; return 10 * x + y;"
	goes(t, two, valued(0))
	goes(t, two, valued(20), 2)
	goes(t, two, valued(23), 2, 3)
	goes(t, two, valued(23), 2, 3, 1, 1, 1)
	goes(t, two, valued(3), -1, 3)
	goes(t, two, valued(3), 4, 3)
	goes(t, two, valued(30), 3, 4)
	goes(t, two, valued(0), math.MinInt, math.MaxInt)
	fork := "let x ~ flip 1/2; let y = 0; if x { y ~ range 1 3; y ~ range 4 6; } else { y ~ range 7 9; } let z ~ range 0 9; return 10 * y + z;"
	goes(t, fork, valued(62), 1, 1, 2, 0, 2)
	goes(t, fork, valued(94), 0, 1, 1, 2, 4)
	goes(t, fork, valued(71), 0, 2, 2, 9, 1)
	use := "fn f ( a ) { if a { a ~ range 1 3; } return a; } fn g ( a ) { if a > 1 { a = f(0) + f(a); } else { repeat 2 { a ~ range 5 7; } } return a; } let x = g(f(1)); let y ~ range 0 7; return 10 * x + y;"
	goes(t, use, valued(37), 1, 9, 2, 3, 3, 7) // f(1) is 2; of g: f(0) draws nothing, f(2) draws 3
	goes(t, use, valued(74), 0, 1, 1, 1, 2, 4) // f(1) is 1; the repeat draws 6, then 7
	loop := "let n = 0; repeat 3 { let c ~ flip 1/2; if c { let d ~ range 0 4; n = 10 * n + d; } } return n;"
	goes(t, loop, valued(24), 1, 2, 0, 3, 1, 4)
	goes(t, loop, valued(3), 0, 2, 1, 3, 0, 4)
	nest := "let a ~ flip 1/2; let n = 0; if a { if n { n ~ range 1 3; } else { repeat 2 { n ~ range 1 3; } } let m ~ range 4 4; n = n + m; } else { if not n { } else { n ~ range 1 3; } n ~ range 1 3; } let z ~ range 0 7; return 10 * n + z;"
	goes(t, nest, valued(75), 1, 0, 1, 2, 0, 1, 1, 5)
	goes(t, nest, valued(36), 0, 1, 0, 1, 0, 1, 2, 6)
	goes(t, "repeat 0 { let a ~ flip 1/2; } let x ~ range 1 9; return x;", valued(4), 3, 5)
}

// TestAllWaysM3 holds all against programs that are written out, without blocks and names.
func TestAllWaysM3(t *testing.T) {
	d := die(11)
	done, drawing, seen := 0, 0, map[int]int{}
	for done < 1500 {
		p := made(&d)
		if script.Check(p) != api.OK {
			continue
		}
		done++
		before := toldProg(p)
		s := sheetOf(p)
		if len(s.draws) > 2 {
			drawing++
		}
		if l, e := mean.Draws(p); e != api.OK || toldDraws(l) != toldDraws(s.draws) {
			t.Fatalf("M1: %s: %s, not %s", before, toldDraws(l), toldDraws(s.draws))
		}
		if a, e := mean.Run(p); e != api.OK || toldAnswer(a) != toldAnswer(s.answer()) {
			t.Fatalf("M3: %s: %d %s, not %s", before, e, toldAnswer(a), toldAnswer(s.answer()))
		}
		for range 6 {
			right := make([]int, len(s.draws))
			given := make([]int, d.n(len(s.draws)+4))
			for i := range given {
				given[i] = d.n(7) - 1
				if i < len(right) && given[i] >= 0 && given[i] < len(outcomes(s.draws[i])) {
					right[i] = given[i]
				}
			}
			o, e := mean.One(p, given)
			if want := s.outcome(right); e != api.OK || o != want {
				t.Fatalf("M2: %s %v: %d %v, not %v", before, given, e, o, want)
			}
			seen[o.Kind]++
		}
		if toldProg(p) != before {
			t.Fatal("P2: the program was changed")
		}
	}
	if drawing < 300 || seen[api.Valued] < 500 || seen[api.Stuck] < 500 || seen[api.Lost] < 500 {
		t.Error("few of some kind:", drawing, seen)
	}
}

func TestExampleM3(t *testing.T) {
	runs(t, "let x ~ range 1 3; let y ~ flip 1/4; observe x > y + 1; return 6 / (x - y - 1);", answerOf(t, "0", "5/12", "3 1/4", "6 1/3"))
	runs(t, "let x ~ range 1 6; let y ~ range 1 6; observe x + y > 9; return x;", answerOf(t, "0", "5/6", "4 1/36", "5 1/18", "6 1/12"))
	runs(t, "let x ~ range -1 1; return 1 / x;", answerOf(t, "1/3", "0", "-1 1/3", "1 1/3"))
	runs(t, "let x ~ range -1 1; observe x + 1; return 1 / x;", answerOf(t, "1/3", "1/3", "1 1/3"))
	runs(t, "fn f ( a ) { let k ~ flip 1/4; return a + k; } return f(1) * f(2);", answerOf(t, "0", "0", "2 9/16", "3 3/16", "4 3/16", "6 1/16"))
}

func TestPointsM3(t *testing.T) {
	runs(t, "let x ~ pick { 9 : 1/4, 0 : 1/4, - 9 : 1/4, - 999 : 1/8, 999 : 1/8 }; return x;", answerOf(t, "0", "0", "-999 1/8", "-9 1/4", "0 1/4", "9 1/4", "999 1/8"))
	runs(t, "let x ~ flip 0; return x;", answerOf(t, "0", "0", "0 1"))
	runs(t, "let x ~ flip 1; return x;", answerOf(t, "0", "0", "1 1"))
	runs(t, "let x ~ pick { 1 : 0, 2 : 1, 3 : 0 }; observe x == 2 or x; return 6 / (x - 1);", answerOf(t, "0", "0", "6 1"))
	runs(t, "let x ~ flip 0; if x { x = 1 / 0; } else { observe 1; } return x;", answerOf(t, "0", "0", "0 1"))
	runs(t, "let x ~ flip 1/2; let y ~ flip 1/2; return x == y;", answerOf(t, "0", "0", "0 1/2", "1 1/2"))
	// draws that are not come to are no matter
	runs(t, "let x ~ flip 1/2; let y = 0; if x { y ~ range 1 3; } else { y ~ flip 1/5; } return y;", answerOf(t, "0", "0", "0 2/5", "1 4/15", "2 1/6", "3 1/6"))
	runs(t, "if 0 { let x ~ flip 1/7; } return 1;", answerOf(t, "0", "0", "1 1"))
}

func TestGreatestM3(t *testing.T) {
	want := api.Answer{Stuck: over(0, 1), Lost: over(0, 1)}
	for k := range int64(13) {
		want.Points = append(want.Points, api.Point{Value: int(k), P: lowest(new(big.Rat).SetFrac(new(big.Int).Binomial(12, k), big.NewInt(4096)))})
	}
	twelve := "let n = 0; repeat 12 { let x ~ flip 1/2; n = n + x; } "
	runs(t, twelve+"return n;", want)
	runs(t, twelve+"repeat 16 { repeat 16 { repeat 15 { n = n + 0; } } } return n;", want)
	runs(t, twelve+"repeat 16 { repeat 16 { repeat 15 { let x ~ range 1 1; } } } return n;", want)
	runs(t, "fn f ( a ) { return a; } "+twelve+"repeat 16 { n = f(f(f(f(f(f(f(f(f(f(f(f(f(f(n)))))))))))))); } return n;", want)
	if l, e := mean.Draws(parsed(t, "repeat 16 { repeat 16 { repeat 16 { let x ~ pick { 3 : 1 }; } } } return 1;")); e != api.OK || len(l) != 4096 || l[4095].Values[0] != 3 {
		t.Error(e, len(l))
	}
	last := make([]int, 16*16*15+1)
	last[len(last)-1] = 1
	goes(t, "let n = 0; repeat 16 { repeat 16 { repeat 15 { n ~ range 3 3; } } } let x ~ flip 1/2; return 10 * n + x;", valued(31), last...)
	// a function that is never used may have more draws than can be counted
	text := "fn f0 ( ) { let x ~ flip 1/2; return x; } "
	for i := 1; i < 8; i++ {
		text += fmt.Sprintf("fn f%d ( ) { repeat 16 { repeat 16 { repeat 16 { repeat 16 { observe f%d() or f%d(); } } } } return 1; } ", i, i-1, i-1)
	}
	runs(t, text+"repeat 0 { observe f7(); } let x ~ flip 1/3; if x { x = f0(); } return x;", answerOf(t, "0", "0", "0 5/6", "1 1/6"))
}

// TestLongPartsM3: parts of as many digits as may be.
func TestLongPartsM3(t *testing.T) {
	p, q := new(big.Rat), new(big.Rat)
	p.SetString("1" + strings.Repeat("0", 398) + "7/3" + strings.Repeat("0", 398) + "1")
	q.SetString("9" + strings.Repeat("1", 399) + "/9" + strings.Repeat("2", 399))
	one := big.NewRat(1, 1)
	product := func(a, b *big.Rat) *big.Rat { return new(big.Rat).Mul(a, b) }
	less := func(a *big.Rat) *big.Rat { return new(big.Rat).Sub(one, a) }
	want := api.Answer{Stuck: lowest(product(p, q)), Lost: lowest(less(p)), Points: []api.Point{{Value: 1, P: lowest(product(p, less(q)))}}}
	runs(t, fmt.Sprintf("let x ~ flip %s; observe x; let y ~ pick { 0 : %s, 1 : %s }; return 1 / y;", p, q, less(q)), want)
}

func TestAfterM4(t *testing.T) {
	a, _ := mean.Run(parsed(t, "let x ~ range 1 3; let y ~ flip 1/4; observe x > y + 1; return 6 / (x - y - 1);"))
	for _, c := range []struct {
		from api.Answer
		want []string
	}{
		{a, []string{"3 3/7", "6 4/7"}},
		{answerOf(t, "1/3", "1/3", "1 1/3"), []string{"1 1/2"}},
		{answerOf(t, "1/2", "1/2"), nil},
		{answerOf(t, "0", "0", "5 1/7"), []string{"5 1"}},
		{answerOf(t, "0", "5", "3 2", "-9 0", "3 1", "4 -1"), []string{"3 1", "-9 0", "3 1/2", "4 -1/2"}},
		{answerOf(t, "-3", "0", "1 1", "2 0"), []string{"1 -1/2", "2 0"}},
		{answerOf(t, "2", "-2", "123456 1"), []string{"123456 1/3"}},
	} {
		l, e := mean.After(c.from)
		if want := answerOf(t, "0", "0", c.want...).Points; e != api.OK || toldPoints(l) != toldPoints(want) {
			t.Errorf("%s: %d %s, not %s", toldAnswer(c.from), e, toldPoints(l), toldPoints(want))
		}
	}
	for _, from := range []api.Answer{{}, answerOf(t, "0", "1"), answerOf(t, "0", "1", "1 0", "2 0"), answerOf(t, "1/2", "0", "1 -1/2"), answerOf(t, "0", "0", "1 1/3", "2 -1/2", "3 1/6"), {Stuck: api.Frac{Neg: true, Num: "\x05"}, Points: []api.Point{{Value: 3, P: api.Frac{Num: "\x01"}}}}} {
		if l, e := mean.After(from); e != api.ErrZero || len(l) > 0 {
			t.Error(toldAnswer(from), e, l)
		}
	}
}

// TestAnyAnswerM4: numbers of any sign, in any form.
func TestAnyAnswerM4(t *testing.T) {
	d := die(3)
	noughts := 0
	for range 1000 {
		number := func() (*big.Rat, api.Frac) {
			r := big.NewRat(int64(d.n(9)-3), int64(1+d.n(4)))
			return r, odd(&d, r)
		}
		var a api.Answer
		sum := new(big.Rat)
		var parts []*big.Rat
		add := func() api.Frac {
			r, f := number()
			sum.Add(sum, r)
			parts = append(parts, r)
			return f
		}
		a.Stuck = add()
		_, a.Lost = number()
		for range d.n(5) {
			a.Points = append(a.Points, api.Point{Value: d.n(5) - 2, P: add()})
		}
		before := toldAnswer(a)
		l, e := mean.After(a)
		if toldAnswer(a) != before {
			t.Fatal("P2: the answer was changed")
		}
		if sum.Sign() == 0 {
			noughts++
			if e != api.ErrZero || len(l) > 0 {
				t.Error(before, e, l)
			}
			continue
		}
		var want []api.Point
		for i, x := range a.Points {
			want = append(want, api.Point{Value: x.Value, P: lowest(new(big.Rat).Quo(parts[i+1], sum))})
		}
		if e != api.OK || toldPoints(l) != toldPoints(want) {
			t.Errorf("%s: %d %s, not %s", before, e, toldPoints(l), toldPoints(want))
		}
		if len(l) > 0 {
			l[0] = api.Point{Value: 99}
			if toldAnswer(a) != before {
				t.Fatal("P2: the points are shared")
			}
		}
	}
	if noughts < 20 {
		t.Error("few noughts:", noughts)
	}
}
