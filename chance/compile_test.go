package chance_test

import (
	"fmt"
	"math"
	"slices"
	"strings"
	"testing"

	"augur/api"
	"augur/chance"
	"augur/mean"
	"augur/net"
	"augur/script"
)

// compiles fails unless a text's diagram has its draws and these knots.
func compiles(t *testing.T, text, want string) {
	t.Helper()
	p := parsed(t, text)
	d, e := chance.Compile(p)
	draws, _ := mean.Draws(p)
	if e != api.OK || toldKnots(d.Knots) != want || toldDraws(d.Draws) != toldDraws(draws) {
		t.Errorf("%.300q: %d %.600s, not %.600s", text, e, told(d), want)
	}
}

func TestExampleG3(t *testing.T) {
	text := "let x ~ range 1 3; let y ~ flip 1/4; observe x > y + 1; return 6 / (x - y - 1);"
	compiles(t, text, "lost; 6; draw 1: 1 0; 3; draw 1: 3 1; draw 0: 0 2 4")
	d, _ := chance.Compile(parsed(t, text))
	if told(d) != told(example()) {
		t.Error(told(d))
	}
}

func TestKnotsG3(t *testing.T) {
	f := "fn f ( a ) { let k ~ flip 1/4; return a + k; } fn g ( a ) { observe a; let k ~ flip 1/4; return 4 / k; } "
	for text, want := range map[string]string{
		"return 1;":                "1",
		"return 1 / 0;":            "stuck",
		"observe 0; return 1 / 0;": "lost",
		// what is drawn, and of what nothing hangs, is no knot
		"let x ~ flip 1/3; return x;":                                    "0; 1; draw 0: 0 1",
		"let x ~ flip 1/3; return not x;":                                "1; 0; draw 0: 0 1",
		"let x ~ flip 1/3; return 5;":                                    "5",
		"let x ~ range 4 4; return x;":                                   "4",
		"let x ~ pick { 7 : 1/2, 7 : 1/2 }; return x;":                   "7",
		"let x ~ pick { 7 : 1/2, 8 : 0, 7 : 1/2 }; return x;":            "7; 8; draw 0: 0 1 0",
		"let x ~ flip 0; let y ~ flip 1; return x + y;":                  "0; 1; draw 1: 0 1; 2; draw 1: 1 3; draw 0: 2 4",
		"let x ~ flip 1/2; let y ~ flip 1/2; return x - x;":              "0",
		"let x ~ flip 1/2; let y ~ flip 1/2; return x == y;":             "1; 0; draw 1: 0 1; draw 1: 1 0; draw 0: 2 3",
		"let x ~ flip 1/2; let y ~ flip 1/2; return x and y;":            "0; 1; draw 1: 0 1; draw 0: 0 2",
		"let x ~ flip 1/2; let y ~ flip 1/2; return x or y;":             "0; 1; draw 1: 0 1; draw 0: 2 1",
		"let x ~ range 0 3; return x / 2;":                               "0; 1; draw 0: 0 0 1 1",
		"let x ~ range -1 1; return 1 / x;":                              "-1; stuck; 1; draw 0: 0 1 2",
		"let x ~ flip 1/2; x ~ flip 1/2; return x;":                      "0; 1; draw 1: 0 1",
		"let x = 0; repeat 3 { let y ~ flip 1/2; x = x + y; } return x;": "0; 1; draw 2: 0 1; 2; draw 2: 1 3; draw 1: 2 4; 3; draw 2: 3 6; draw 1: 4 7; draw 0: 5 8",
		// draws of a block that is not done keep their numbers
		"let x = 5; if 0 { x ~ flip 1/2; } else { x ~ range 1 2; } return x;":                                               "1; 2; draw 1: 0 1",
		"let x ~ flip 1/2; if x { x ~ range 1 2; } else { x ~ range 2 3; } return x;":                                       "2; 3; draw 2: 0 1; 1; draw 1: 3 0; draw 0: 2 4",
		"let x ~ flip 1/2; let y = 3; if x { y = 10 / x; } return y;":                                                       "3; 10; draw 0: 0 1",
		"let x ~ flip 1/2; if x { } else { observe x; } return 1 / x;":                                                      "lost; 1; draw 0: 0 1",
		"let x ~ flip 1/2; if 1 / x { x = 4; } else { x = 5; } return x;":                                                   "stuck; 4; draw 0: 0 1",
		"let x ~ flip 1/2; let y ~ flip 1/2; if x { observe y; } else { y = 1 / y; } return y;":                             "stuck; 1; draw 1: 0 1; lost; draw 1: 3 1; draw 0: 2 4",
		"let x ~ flip 1/2; if x { let w = 2; if w == 2 { w = 3; } x = w; } else { let w = 4; x = w; } let w = x; return w;": "4; 3; draw 0: 0 1",
		"let x ~ flip 1/2; observe x; let y = 1 / x; observe y; return 1 / (x - 1);":                                        "lost; stuck; draw 0: 0 1",
		"let x ~ flip 1/2; let y = 1 / x; observe x; return x;":                                                             "stuck; 1; draw 0: 0 1",
		// of two ends the first
		f + "let x ~ flip 1/2; return g(x) + 1 / x;": "lost; stuck; 5; draw 1: 1 2; draw 0: 0 3",
		f + "let x ~ flip 1/2; return 1 / x + g(x);": "stuck; 5; draw 1: 0 1; draw 0: 0 2",
		f + "let x ~ flip 1/2; return g(1 / x);":     "stuck; 4; draw 1: 0 1; draw 0: 0 2",
		f + "return f(1) * f(2);":                    "2; 3; draw 1: 0 1; 4; 6; draw 1: 3 4; draw 0: 2 5",
		f + "return f(f(1));":                        "1; 2; draw 1: 0 1; 3; draw 1: 1 3; draw 0: 2 4",
		f + "let k = 7; let a = f(k); return a - k;": "0; 1; draw 0: 0 1",
	} {
		compiles(t, text, want)
	}
}

// leastIsTold fails unless a program's diagram is the least one of where its choices lead by One, and counts what Run does.
func leastIsTold(t *testing.T, p api.Prog) {
	t.Helper()
	text, _ := script.Print(p)
	d, e := chance.Compile(p)
	draws, _ := mean.Draws(p)
	want := diagram(draws, leastOf(draws, func(choices []int) api.Outcome {
		o, _ := mean.One(p, choices)
		return o
	}))
	if e != api.OK || told(d) != told(want) {
		t.Fatalf("%s: %d %s, not %s", text, e, told(d), told(want))
	}
	run, _ := mean.Run(p)
	counts(t, text, d, run)
	checks(t, text, api.OK, d)
}

func waysOf(draws []api.Draw) int {
	ways := 1
	for _, d := range draws {
		ways *= len(chances(d))
	}
	return ways
}

func TestDrawnG3(t *testing.T) {
	d := die(77)
	forks := 0
	for tried := 0; tried < 6000; tried++ {
		p := made(&d)
		draws, e := mean.Draws(p)
		if e != api.OK || waysOf(draws) > 100 {
			continue
		}
		leastIsTold(t, p)
		g, _ := chance.Compile(p)
		if len(g.Knots) > 4 {
			forks++
		}
		if t.Failed() {
			t.FailNow()
		}
	}
	if forks < 300 {
		t.Error("so few with forks:", forks)
	}
}

// TestEvalIsOneG3: also for choices that tell too few, too many, or none that there are.
func TestEvalIsOneG3(t *testing.T) {
	d := die(91)
	for range 2000 {
		p := made(&d)
		g, e := chance.Compile(p)
		if e != api.OK {
			continue
		}
		for range 10 {
			choices := make([]int, d.n(len(g.Draws)+3))
			for i := range choices {
				choices[i] = []int{-1, 0, 1, 1, 2, 3, 16, math.MaxInt}[d.n(8)]
			}
			o, _ := mean.One(p, choices)
			goes(t, g, o, choices...)
		}
		if t.Failed() {
			t.FailNow()
		}
	}
}

func TestNetsG3(t *testing.T) {
	n, e := net.Parse("var a { x y z } var b { x y } var c { x y } a : 1/2 1/3 1/6 ; b | a { x : 1/3 2/3 ; y : 3/4 1/4 ; z : 1/2 1/2 ; } c | a b { x x : 1 0 ; x y : 1/2 1/2 ; y y : 1/5 4/5 ; else : 1/7 6/7 ; }")
	if e != api.OK {
		t.Fatal(e)
	}
	for q := range n.Vars {
		for _, facts := range [][]api.Fact{nil, {{Var: 0, Value: 1}}, {{Var: 1, Value: 1}}, {{Var: 0, Value: 2}, {Var: 2, Value: 1}}} {
			p, e := mean.OfNet(n, facts, q)
			if e != api.OK {
				t.Fatal(e)
			}
			leastIsTold(t, p)
		}
	}
}

func TestCheckFirstG3(t *testing.T) {
	for text, want := range map[string]api.Errno{
		"let x = 1; let x = 2; return x;": api.ErrDouble, "return x;": api.ErrName, "fn f ( a ) { return a; } return f();": api.ErrCount, "let x ~ flip 3/2; return x;": api.ErrSum, "let x ~ range 0 16; return x;": api.ErrLimit, "let x ~ pick { 1 : 1/2 }; return x;": api.ErrSum,
		"repeat 13 { let x ~ flip 1/2; } return 1;": api.ErrMany, "repeat 16 { repeat 16 { repeat 16 { let x = 1; x = 2; } } } return 1;": api.ErrLong,
	} {
		refused(t, text, want, parsed(t, text))
	}
	one := api.Expr{Op: api.Number, N: 1}
	deep := one
	for range 17 {
		deep = api.Expr{Op: api.Not, Args: []api.Expr{deep}}
	}
	giving := func(e api.Expr) api.Prog { return api.Prog{Body: []api.Stmt{{Kind: api.Return, Expr: e}}} }
	refused(t, "nothing", api.ErrForm, api.Prog{})
	refused(t, "no expression", api.ErrForm, giving(api.Expr{}))
	refused(t, "too deep", api.ErrDeep, giving(deep))
	refused(t, "too many arguments", api.ErrLimit, giving(api.Expr{Op: api.Use, Name: "f", Args: slices.Repeat([]api.Expr{one}, 5)}))
	refused(t, "a number that is too great", api.ErrForm, giving(api.Expr{Op: api.Number, N: math.MinInt}))
}

// TestGreatestG3: as many ways, draws and steps as there may be.
func TestGreatestG3(t *testing.T) {
	flips := ""
	for i := range 12 {
		flips += fmt.Sprintf("let b%d ~ flip 1/3; ", i)
	}
	bits := "let n = 0; repeat 9 { let b ~ flip 1/3; n = n * 2 + b; } "
	for _, c := range []struct {
		text  string
		knots int
	}{
		{flips + "return b0 + b1 + b2 + b3 + b4 + b5 + b6 + b7 + b8 + b9 + b10 + b11;", 13 + 12*13/2},
		{flips + "repeat 16 { repeat 16 { repeat 15 { b0 = b0 != b11; } } } return b0;", 3},
		{bits + "let c ~ range 0 7; return n;", 1023},
		{bits + "let c ~ range 0 7; repeat 16 { repeat 15 { n = (n + 100) % 512; } } return n + c;", 0},
		{"let a ~ range 0 15; let b ~ range 0 15; let c ~ range 0 15; return a + b + c;", 46 + 31 + 16 + 1},
		{"let a ~ range 0 15; let b ~ range 0 15; let c ~ range 0 15; return 60 * a + b * c;", 0},
		{"repeat 16 { repeat 16 { repeat 8 { let x ~ range 5 5; observe x == 5; } } } let z ~ flip 1/2; return z;", 3},
		{"let n = 1" + strings.Repeat(" + 1 - 1", 1000) + "; repeat 16 { n = n" + strings.Repeat(" + 1 - 1", 1000) + "; } let z ~ flip 1/2; return n + z;", 3},
	} {
		p := parsed(t, c.text)
		g, e := chance.Compile(p)
		if e != api.OK || c.knots > 0 && len(g.Knots) != c.knots {
			t.Errorf("%.300q: %d, %d knots, not %d", c.text, e, len(g.Knots), c.knots)
			continue
		}
		run, _ := mean.Run(p)
		counts(t, c.text, g, run)
		for at, k := range g.Knots {
			for before, other := range g.Knots[:min(at, 300)] {
				if toldKnots(knots(k)) == toldKnots(knots(other)) {
					t.Fatalf("%.300q: %d and %d are alike", c.text, before, at)
				}
			}
		}
	}
}

// TestLastDrawG3: a fork's draw is known by its number, also where thousands stand ahead of it.
func TestLastDrawG3(t *testing.T) {
	g, e := chance.Compile(parsed(t, "repeat 16 { repeat 16 { repeat 16 { let x ~ range 5 5; } } } let y ~ flip 1/2; let z ~ flip 1/2; return 2 * y + z;"))
	if want := "0; 1; draw 4097: 0 1; 2; 3; draw 4097: 3 4; draw 4096: 2 5"; e != api.OK || len(g.Draws) != 4098 || toldKnots(g.Knots) != want {
		t.Error(e, len(g.Draws), toldKnots(g.Knots))
	}
}

// TestCompileP2: what comes out is the caller's: no two lists share any, and what is handed in stays.
func TestCompileP2(t *testing.T) {
	p := parsed(t, "let x ~ pick { 1 : 1/2, 2 : 1/4, 3 : 1/4 }; repeat 2 { let y ~ pick { 4 : 1/3, 5 : 2/3 }; x = x + y; } return x;")
	before, _ := script.Print(p)
	g, _ := chance.Compile(p)
	want := told(g)
	for i := range g.Draws {
		g.Draws[i].Values[0] = 0
		_ = append(g.Draws[i].Values, 77)
		g.Draws[i].Weights[0] = api.Frac{}
		h, _ := chance.Compile(p)
		for k := i + 1; k < len(g.Draws); k++ {
			if toldDraws(g.Draws[k:k+1]) != toldDraws(h.Draws[k:k+1]) {
				t.Error("the draws", i, "and", k, "share something")
			}
		}
	}
	for i := range g.Knots {
		h, _ := chance.Compile(p)
		for k := range g.Knots[i].Kids {
			g.Knots[i].Kids[k] = -5
		}
		_ = append(g.Knots[i].Kids, 77)
		if i+1 < len(g.Knots) && toldKnots(g.Knots[i+1:]) != toldKnots(h.Knots[i+1:]) {
			t.Error("the knot", i, "shares something")
		}
	}
	h, _ := chance.Compile(p)
	if after, _ := script.Print(p); after != before || told(h) != want {
		t.Error("another answer:", after, told(h))
	}
}
