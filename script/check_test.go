package script_test

import (
	"fmt"
	"math/big"
	"slices"
	"strings"
	"testing"

	"augur/api"
	"augur/script"
)

// checks fails unless each text can be read, and Check says so of it.
func checks(t *testing.T, want api.Errno, texts ...string) {
	t.Helper()
	for _, text := range texts {
		if e := script.Check(parsed(t, text)); e != want {
			t.Errorf("%.300q: %d, not %d", text, e, want)
		}
	}
}

func TestExampleS5(t *testing.T) {
	checks(t, api.OK, "let x ~ range 1 3; let y ~ flip 1/4; observe x > y + 1; return 6 / (x - y - 1);", "return 1;", "fn f ( a ) { let k ~ flip 1/4; return a + k; } return f(1) * f(2);")
}

func TestDoubleS5(t *testing.T) {
	checks(t, api.ErrDouble,
		"fn f ( ) { return 1; } fn f ( ) { return 1; } return 1;", "fn f ( ) { return 1; } fn g ( ) { return 1; } fn f ( a ) { return 1; } return 1;",
		"fn f ( a , a ) { return 1; } return 1;", "fn f ( a , b , c , a ) { return 1; } return 1;",
		"let x = 1; let x = 1; return 1;", "let x = 1; let x ~ flip 1; return 1;", "let x ~ flip 1; let x = 1; return 1;", "let x = 1; let y = 1; let x = y; return 1;",
		"fn f ( a ) { let a = 1; return 1; } return 1;", "fn f ( a , b ) { let b ~ flip 1; return 1; } return 1;",
		"let x = 1; if 1 { let x = 1; } return 1;", "let x = 1; if 1 { } else { let x = 1; } return 1;", "let x = 1; repeat 2 { if 1 { let x = 1; } } return 1;", "fn f ( a ) { repeat 1 { let a = 1; } return 1; } return 1;", "if 1 { let x = 1; if 1 { let x = 1; } } return 1;", "if 1 { let x = 1; let x = 2; } return 1;", "repeat 0 { let x = 1; let x = 2; } return 1;")
	checks(t, api.OK,
		"if 1 { let x = 1; } let x = 2; return x;", "if 1 { let x = 1; } else { let x = 2; } return 1;", "repeat 2 { let x = 1; } repeat 2 { let x = 1; } return 1;", "if 1 { if 1 { let x = 1; } let x = 2; x = 3; } return 1;", "repeat 3 { let x = 1; x = 2; } return 1;",
		"fn f ( a ) { return a; } fn g ( a ) { return a; } let a = 1; return a;", "fn f ( f ) { return f; } let f = 1; return f(f);", "fn x ( ) { let x = 1; return x; } let x = x(); return x + x();", "fn f ( ) { let x = 1; return x; } let x = f(); return x;")
}

func TestNameS5(t *testing.T) {
	checks(t, api.ErrName,
		"return x;", "x = 1; return 1;", "x ~ flip 1; return 1;", "let x = x; return 1;", "observe x; return 1;", "if x { } return 1;", "let y = 1; x = y; return 1;", "return 1 + (2 * (not x));",
		"if 1 { let x = 1; } return x;", "if 1 { let x = 1; } else { x = 1; } return 1;", "repeat 1 { let x = 1; } x = 2; return 1;", "repeat 2 { y = 1; let y = 1; } return 1;", "if 1 { } else { let x ~ flip 1; } return x;", "return x; ",
		"let x = 1; fx = x; return 1;", "fn f ( ) { return x; } let x = 1; return f();", "fn f ( a ) { return 1; } return a;", "fn f ( a ) { let b = 1; return 1; } fn g ( ) { return b; } return 1;",
		"return f(1);", "return f();", "fn f ( ) { return f(); } return 1;", "fn f ( ) { return g(); } fn g ( ) { return 1; } return f();", "let f = 1; return f(1);", "fn f ( g ) { return g(); } return 1;", "fn f ( ) { return 1; } return f;", "fn f ( ) { return 1; } f = 1; return 1;", "fn f ( a ) { return a; } return f(f);")
	checks(t, api.OK, "fn f ( ) { return 1; } fn g ( ) { return f(); } fn h ( a ) { return f() + g() + a; } return h(g());", "let x = 1; repeat 2 { if x { x = 2; } else { x ~ flip 1; } } return x;", "fn f ( a , b ) { a = b; b ~ flip 1/2; return a; } return f(1, 2);")
}

func TestCountS5(t *testing.T) {
	f := "fn f ( ) { return 1; } fn g ( a ) { return a; } fn h ( a , b , c , d ) { return a; } "
	checks(t, api.ErrCount, f+"return f(1);", f+"return g();", f+"return g(1, 2);", f+"return h(1, 2, 3);", f+"return h();", f+"return g(g(g()));", f+"return 1 + g(f(1));", f+"fn i ( a ) { return g(a, a); } return 1;")
	checks(t, api.OK, f+"return f() + g(1) + h(1, 2, 3, 4);")
}

func TestDrawsS5(t *testing.T) {
	for text, want := range map[string]api.Errno{
		"flip 0": api.OK, "flip 1": api.OK, "flip 1/2": api.OK, "flip 999999/1000000": api.OK, "flip 1000001/1000000": api.ErrSum, "flip 2": api.ErrSum, "flip 3/2": api.ErrSum, "flip 4/4": api.OK,
		"range 0 0": api.OK, "range 0 15": api.OK, "range -999 -984": api.OK, "range 984 999": api.OK, "range -8 7": api.OK, "range 0 16": api.ErrLimit, "range -8 8": api.ErrLimit, "range 1 0": api.ErrLimit, "range -1 -2": api.ErrLimit, "range -999 999": api.ErrLimit, "range 999 -999": api.ErrLimit,
		"pick { 1 : 1 }": api.OK, "pick { 1 : 1/2, 1 : 1/2 }": api.OK, "pick { 1 : 1/3, 2 : 1/3, 3 : 1/3 }": api.OK, "pick { 1 : 0, 2 : 1 }": api.OK, "pick { 1:1/8,2:1/8,3:1/8,4:1/8,5:1/8,6:1/8,7:1/8,8:1/8 }": api.OK,
		"pick { 1 : 0 }": api.ErrSum, "pick { 1 : 1/2 }": api.ErrSum, "pick { 1 : 1, 2 : 1 }": api.ErrSum, "pick { 1 : 1/2, 2 : 1/3 }": api.ErrSum, "pick { 1 : 1/2, 2 : 1/2, 3 : 1/1000000 }": api.ErrSum, "pick { 1 : 3/2 }": api.ErrSum,
	} {
		checks(t, want, "let x ~ "+text+"; return 1;", "let x = 1; x ~ "+text+"; return 1;", "repeat 0 { let x ~ "+text+"; } return 1;", "fn f ( a ) { a ~ "+text+"; return 1; } return 1;", "if 1 { } else { let x ~ "+text+"; } return 1;")
	}
	long := "1" + strings.Repeat("0", 399)
	nines := strings.Repeat("9", 399)
	checks(t, api.OK, "let x ~ pick { 1 : "+nines+"/"+long+", 2 : 1/"+long+" }; return 1;", "let x ~ flip "+nines+"/"+long+"; return 1;")
	checks(t, api.ErrSum, "let x ~ pick { 1 : "+nines+"/"+long+", 2 : 2/"+long+" }; return 1;", "let x ~ flip "+long+"/"+nines+"; return 1;")
}

// TestFirstFaultS5: of two faults the one ahead is told, in the order that S5 has within a step.
func TestFirstFaultS5(t *testing.T) {
	f := "fn f ( a ) { return a; } "
	checks(t, api.ErrName, "x = f(); return 1;", f+"x = f(); return 1;", "x ~ flip 2; return 1;", "x ~ range 1 0; return 1;", f+"return f(x) + f();", f+"return f(x + f());", "let x = y; let x = 1; return 1;", "let x = 1; let x = y; return 1;", "if x { let y = 1; let y = 1; } return 1;", "observe x; let y ~ flip 2; return 1;",
		"fn f ( ) { return x; } fn f ( ) { return 1; } return 1;", "fn f ( ) { return x; } let y = 1; let y = 1; return 1;", f+"return g(f());", "if 1 { x = 1; } else { let y ~ flip 2; } return 1;", "if 1 { let x = 1; x = y; } let z ~ flip 2; return 1;")
	checks(t, api.ErrCount, f+"let x = 1; let x = f(); return 1;", f+"return f() + x;", f+"return f(x, x);", f+"return f(g(), 1);", f+"if f() { x = 1; } return 1;", f+"let x = 1; x = f(); y = 1; return 1;", "fn g ( ) { return 1; } "+f+"return g(x) + f(x);")
	checks(t, api.ErrSum, "let x = 1; let x ~ flip 2; return 1;", "let x = 1; x ~ flip 2; y = 1; return 1;", "let x ~ pick { 1 : 1/2 }; let x ~ flip 1/2; return 1;", "let x ~ flip 2; let y ~ range 1 0; return 1;", "fn f ( a ) { let a ~ flip 2; return 1; } return 1;")
	checks(t, api.ErrLimit, "let x = 1; let x ~ range 1 0; return 1;", "let x ~ range 0 16; let y ~ flip 2; return 1;")
	checks(t, api.ErrDouble, "let x = 1; let x ~ flip 1; let y ~ flip 2; return z;", "fn f ( a , a ) { let b ~ flip 2; return c; } fn f ( ) { return 1; } return 1;", "fn f ( ) { return 1; } fn f ( a , a ) { return x; } return 1;", "fn f ( a , a ) { return 1; } x = 1; return 1;", "let x = 1; let x = 2; repeat 16 { repeat 16 { let y ~ flip 1; } } return 1;")
	checks(t, api.ErrMany, "repeat 16 { repeat 16 { repeat 16 { let x ~ flip 1/2; let y = 1; } } } return 1;")
	checks(t, api.ErrName, "repeat 16 { repeat 16 { repeat 16 { let x ~ flip 1/2; let y = 1; } } } return x;", "repeat 16 { repeat 16 { repeat 16 { let y = 1; y = 2; } } } return y;")
}

func TestWaysS5(t *testing.T) {
	twelve := strings.Repeat("x ~ flip 1/2; ", 12)
	f := "fn f ( ) { let a ~ range 1 16; return a; } "
	checks(t, api.OK, "let x = 1; "+twelve+"return 1;", "repeat 12 { let x ~ flip 0; } return 1;", "repeat 3 { let x ~ range 1 16; } return 1;", "repeat 4 { let x ~ pick { 1:1/8,2:1/8,3:1/8,4:1/8,5:1/8,6:1/8,7:1/8,8:1/8 }; } return 1;", f+"return f() + f() + f();", f+"repeat 3 { observe f(); } return 1;", f+"repeat 3 { if f() { } } return 1;",
		"repeat 6 { if 1 { let x ~ flip 1; } else { let x ~ flip 1; } } return 1;", "repeat 16 { repeat 16 { let x ~ range 5 5; } } return 1;", "repeat 16 { repeat 16 { let x ~ pick { 1 : 1 }; } } return 1;", "repeat 0 { repeat 13 { let x ~ flip 1; } } repeat 12 { let x ~ flip 1; } return 1;", "repeat 13 { repeat 0 { let x ~ flip 1; } } return 1;",
		"fn g ( ) { repeat 16 { let a ~ flip 1/2; } return 1; } return 1;", "fn g ( ) { repeat 16 { let a ~ flip 1/2; } return 1; } repeat 0 { observe g(); } return 1;", f+"fn g ( a ) { return f() + a; } return g(g(f()));", "repeat 2 { let x ~ range 0 14; } repeat 2 { let y ~ pick { 1 : 1/3, 2 : 1/3, 3 : 1/3 }; } let z ~ flip 1/2; return 1;")
	checks(t, api.ErrMany, "let x = 1; "+twelve+"x ~ flip 1; return 1;", "repeat 13 { let x ~ flip 0; } return 1;", "repeat 3 { let x ~ range 1 16; } let y ~ flip 1; return 1;", f+"return f() + f() + f() * f();", f+"return f() and (f() and (f() and f()));", f+"let x ~ flip 1; let y = f(); y = f(); return f();", "repeat 7 { if 1 { let x ~ flip 1; } else { let x ~ flip 1; } } return 1;",
		"if 0 { repeat 13 { let x ~ flip 1; } } return 1;", "if 0 { } else { repeat 13 { let x ~ flip 1; } } return 1;", "repeat 13 { let x ~ flip 1; } observe 0; return 1;", f+"fn g ( a ) { return f() + a; } return g(g(f() + f()));", "fn f ( ) { repeat 13 { let x ~ flip 1; } return 1; } return f();", f+"fn g ( a , b ) { return a; } return g(f() + f(), f() + f());",
		"repeat 16 { repeat 16 { repeat 16 { repeat 16 { let x ~ range 0 15; } } } } return 1;", "repeat 2 { let x ~ range 0 14; } repeat 3 { let y ~ pick { 1 : 1/3, 2 : 1/3, 3 : 1/3 }; } return 1;", "repeat 2 { let x ~ range 0 14; } repeat 2 { let y ~ pick { 1 : 1/3, 2 : 1/3, 3 : 1/3 }; } let z ~ pick { 1 : 1/3, 2 : 1/3, 3 : 1/3 }; return 1;")
}

func TestWorkS5(t *testing.T) {
	steps := func(n int) string { return strings.Repeat("x=1;", n) }
	thousand := "repeat 9 { " + steps(110) + "} " + steps(7) // 1 + 990 + 7
	checks(t, api.OK, "let x=1;"+steps(2000)+"return x;", "repeat 16 { repeat 16 { repeat 16 { let x = 1; } } } return 1;")
	checks(t, api.ErrLong, "repeat 16 { repeat 16 { repeat 16 { let x = 1; x = 2; } } } return 1;", "repeat 16 { repeat 16 { repeat 16 { repeat 16 { repeat 16 { } } } } } return 1;")
	// 1 let, 5 repeats and what is in them, the return: one more or less decides
	for extra, want := range map[int]api.Errno{-1: api.OK, 0: api.OK, 1: api.ErrLong, 2: api.ErrLong} {
		checks(t, want, "let x = 1; repeat 5 { "+thousand+"} "+steps(7+extra)+"return x;")
		checks(t, want, fmt.Sprintf("fn f ( x ) { %s return x; } let x = 1; repeat 10 { x = f(f(1)) + f(2); } %s return f(f(x));", steps(149), steps(5000-1-1-10*(1+3*150)-1-2*150+extra)))
		checks(t, want, fmt.Sprintf("fn g ( x ) { repeat 16 { x = 1; x = 2; } return x; } fn f ( x ) { if g(x) { x = g(1); } else { observe g(2); } return g(g(x)); } let x = f(1); %s return x;", strings.Repeat("x = f(1); ", 27)+steps(5000-28*(1+4+5*34)-1+extra)))
	}
	checks(t, api.OK, "fn f ( x ) { "+steps(2000)+"return x; } let x = 1; repeat 0 { x = f(1); x = f(1); x = f(1); } return x;")
	checks(t, api.ErrLong, "fn f ( x ) { "+steps(2000)+"return x; } let x = 1; x = f(1); x = f(1); x = f(1); return x;")
}

// written counts by writing all out, step by step: each use as its function's steps.
type written struct {
	defs []api.Def
	ways *big.Int
	work int
}

// enough is how many steps are written out: programs of more are passed over.
const enough = 20000

func (w *written) steps(l []api.Stmt) {
	for _, s := range l {
		if w.work++; w.work > enough {
			return
		}
		w.expr(s.Expr)
		w.ways.Mul(w.ways, big.NewInt([]int64{1, 2, int64(s.Draw.Hi - s.Draw.Lo + 1), int64(len(s.Draw.Values))}[s.Draw.Kind]))
		times := max(1, s.N)
		if s.Kind == api.Repeat {
			times = s.N
		}
		for range times {
			w.steps(s.Body)
			w.steps(s.Else)
		}
	}
}

func (w *written) expr(e api.Expr) {
	for _, x := range e.Args {
		w.expr(x)
	}
	if e.Op == api.Use {
		w.steps(w.defs[e.Name[1]-'0'].Body)
	}
}

// loaded draws programs without faults but that they may be too great.
func loaded(d *die) api.Prog {
	var steps func(fs, levels int) []api.Stmt
	rare := 16 + 200*d.n(3)
	expr := func(fs int) api.Expr {
		if fs > 0 && d.n(6) == 0 {
			return use(fmt.Sprint("f", d.n(fs)), number(1))
		}
		return op(api.Add, number(1), number(d.n(9)))
	}
	steps = func(fs, levels int) (l []api.Stmt) {
		for i := range 1 + d.n(5) {
			name := fmt.Sprint("x", levels, "_", i)
			switch kind := d.n(16); {
			case d.n(rare) == 0:
				l = append(l, roll(name, []api.Draw{flip(1, 2), among(1, 1+d.n(3)), pick([]int{1, 2}, over(1, 3), over(2, 3))}[d.n(3)]))
			case kind < 4 && levels < 4:
				l = append(l, repeat(d.n(9), steps(fs, levels+1)...))
			case kind < 7 && levels < 4:
				l = append(l, choice(expr(fs), steps(fs, levels+1), steps(fs, levels+1)))
			case kind < 10:
				l = append(l, observe(expr(fs)))
			default:
				l = append(l, let(name, expr(fs)))
			}
		}
		return l
	}
	var p api.Prog
	for f := range d.n(4) {
		p.Defs = append(p.Defs, api.Def{Name: fmt.Sprint("f", f), Params: []string{"a"}, Body: append(steps(f, 1), giving(expr(f)))})
	}
	p.Body = append(steps(len(p.Defs), 0), giving(expr(len(p.Defs))))
	return p
}

func TestLoadsS5(t *testing.T) {
	d := die(23)
	seen := map[api.Errno]int{}
	for range 2000 {
		p := loaded(&d)
		before := told(p)
		w := written{defs: p.Defs, ways: big.NewInt(1)}
		if w.steps(p.Body); w.work > enough {
			continue
		}
		want := api.OK
		if w.work > api.MaxWork {
			want = api.ErrLong
		}
		if w.ways.Cmp(big.NewInt(api.MaxWays)) > 0 {
			want = api.ErrMany
		}
		if e := script.Check(p); e != want {
			t.Errorf("%d, not %d (%v ways, %d steps): %.500s", e, want, w.ways, w.work, printed(t, p))
		}
		if told(p) != before {
			t.Fatal("P2: the program was changed")
		}
		seen[want]++
	}
	for _, e := range []api.Errno{api.OK, api.ErrMany, api.ErrLong} {
		if seen[e] < 50 {
			t.Error("few of", e, seen[e])
		}
	}
}

// TestGreatestS5: all that a text can hold is counted at once, however much it would be if it were written out.
func TestGreatestS5(t *testing.T) {
	text := "fn f0 ( a ) { return a; } "
	for i := 1; i < 8; i++ {
		text += fmt.Sprintf("fn f%d ( a ) { return %sa; } ", i, strings.Repeat(fmt.Sprintf("f%d(a)+", i-1), 240))
	}
	checks(t, api.ErrLong, text+"return f7(1);")
	checks(t, api.OK, text+"return f0(1);")
	checks(t, api.ErrMany, strings.Replace(text, "{ return a; }", "{ a ~ flip 1/2; return a; }", 1)+"return f7(1);")
	checks(t, api.OK, text+"repeat 0 { observe f7(1); } return f1(1);")
	checks(t, api.ErrLong, text+strings.Repeat("repeat 16 { ", 15)+strings.Repeat("observe f7(1); ", 5)+strings.Repeat("} ", 15)+"return 1;", strings.Repeat("repeat 16 { ", 16)+strings.Repeat("} ", 16)+"return 1;")
}

func TestCheckP2(t *testing.T) {
	p := parsed(t, "fn f ( a , b ) { let c = a; return b; } let x = 1; if x { let y = f(x, 1); } else { let y ~ pick { 1 : 1/2, 2 : 1/2 }; } return x;")
	p.Defs[0].Params = append(make([]string, 0, 9), p.Defs[0].Params...)
	before := told(p)
	for range 2 {
		if e := script.Check(p); e != api.OK {
			t.Error(e)
		}
	}
	if spare := p.Defs[0].Params[:9]; told(p) != before || slices.ContainsFunc(spare[2:], func(s string) bool { return s != "" }) {
		t.Error("written into:", spare)
	}
}
