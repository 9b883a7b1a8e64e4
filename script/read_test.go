package script_test

import (
	"fmt"
	"strings"
	"testing"

	"augur/api"
	"augur/script"
)

// same fails unless a text is read as p.
func same(t *testing.T, text string, p api.Prog) {
	t.Helper()
	if got := parsed(t, text); told(got) != told(p) {
		t.Errorf("%.300q:\n%s\nnot\n%s", text, told(got), told(p))
	}
}

// faults fails unless each text has its fault, and nothing beside it.
func faults(t *testing.T, want api.Errno, texts ...string) {
	t.Helper()
	for _, text := range texts {
		p, e := script.Parse(text)
		if e != want {
			t.Errorf("%.300q: %d, not %d", text, e, want)
		}
		if e != api.OK && (p.Defs != nil || p.Body != nil) {
			t.Errorf("%.300q: %v beside an error", text, p)
		}
	}
}

func TestNamesS1(t *testing.T) {
	for _, name := range []string{"a", "z", "a0", "a9_", "abcdefghijkl", "a___________", "zzzzzzzzzzz9", "fns", "f", "lets", "iff", "elses", "repeat1", "observe_", "returns", "flips", "ranges", "picks", "ore", "an", "nott", "n", "fn1"} {
		same(t, "return "+name+";", prog(giving(named(name))))
		same(t, "let "+name+"=1;return 0;", prog(let(name, number(1)), giving(number(0))))
	}
	for _, name := range []string{"abcdefghijklm", "a____________", "returnreturnreturn", strings.Repeat("x", 19000), "_", "_a", "A", "aB", "é", "a.b", "a'", "$a", "a$", "\x00", "a\x00", "\xff", "`", "a{", "9", "0a", "fn", "let", "if", "else", "repeat", "observe", "return", "flip", "range", "pick", "or", "and", "not"} {
		faults(t, api.ErrWord, "let "+name+" = 1; return 0;", name+" = 1; return 0;", "fn "+name+" ( ) { return 1; } return 0;", "fn f ( "+name+" ) { return 1; } return 0;", "return f(1) + "+name+"(1);")
	}
	faults(t, api.ErrWord, "return fn;", "return abcdefghijklm;", "return _a;", "return let;", "return aB;", "return A;", "return flip;", "return or;", "return and;")
}

func TestBlanksS1(t *testing.T) {
	want := prog(let("x", op(api.Sub, number(1), number(-2))), giving(named("x")))
	for _, text := range []string{"let x=1--2;return x;", " let\nx\t=\n1 - - 2\t;\n\nreturn\tx ; ", "\t\n let x = 1- -2 ;return x;\n"} {
		same(t, text, want)
	}
	for _, other := range []string{"\r", "\v", "\f", "\u00a0", "\x00", "\ufeff"} {
		faults(t, api.ErrWord, "let x = 1;"+other+"return x;", other+"return 1;", "return 1;"+other)
	}
	same(t, "return 12and 3or x1==2;", prog(giving(op(api.Or, op(api.And, number(12), number(3)), op(api.Eq, named("x1"), number(2))))))
	faults(t, api.ErrWord, "letx 1; return 1;", "return1;", "return x 1;", "return 1 2;", "return 1 x;", "return 12x;")
}

func TestNumbersS1(t *testing.T) {
	for text, n := range map[string]int{"0": 0, "1": 1, "10": 10, "100": 100, "999": 999, "-0": 0, "-1": -1, "- 999": -999, "-\n10": -10} {
		same(t, "return "+text+";", prog(giving(number(n))))
	}
	faults(t, api.ErrWord, "return 00;", "return 01;", "return -01;", "return 0999;", "return 01000;", "return 00000000000000000000000001;", "return +1;", "return 1.5;", "return .5;", "return 1e3;", "return 0x1;", "return 1_0;", "return --1;", "return - - 1;",
		"repeat 01 { } return 1;", "repeat 00 { } return 1;", "repeat -1 { } return 1;", "repeat 099 { } return 1;", "let x ~ flip 01; return 1;", "let x ~ flip 1/02; return 1;", "let x ~ flip 1/00; return 1;", "let x ~ flip 0.5; return 1;", "let x ~ flip -1; return 1;", "let x ~ flip 1/-2; return 1;",
		"let x ~ range 01 2; return 1;", "let x ~ range 1 02; return 1;", "let x ~ pick { 01 : 1 }; return 1;", "let x ~ pick { 1 : 01 }; return 1;", "let x ~ flip "+strings.Repeat("0", 401)+"; return 1;")
}

func TestSignsS1(t *testing.T) {
	a, b := named("a"), named("b")
	for sign, o := range map[string]int{"==": api.Eq, "!=": api.Ne, "<=": api.Le, ">=": api.Ge, "<": api.Lt, ">": api.Gt, "+": api.Add, "-": api.Sub, "*": api.Mul, "/": api.Div, "%": api.Mod} {
		same(t, "return a"+sign+"b;", prog(giving(op(o, a, b))))
		same(t, "return a "+sign+" b;", prog(giving(op(o, a, b))))
	}
	// the longest sign that stands there: so these are not what they would be with a blank within
	faults(t, api.ErrWord, "return a = = b;", "return a ! = b;", "return a < = b;", "return a > = b;", "return a =! b;", "return a => b;", "return a =< b;", "return a ! b;", "return a === b;", "return a <> b;", "return a << b;", "return a ** b;", "return a // b;", "return !a;", "return a & b;", "return a | b;", "return a ^ b;",
		"let a == 1; return 1;", "a == 1; return 1;", "return a [ b ];", "return \"a\";", "return a , b;", "return a : b;", "return a ~ b;", "return a = b;", "return a;;", "return @;", "return #;", "return 1 ?", "return 1\\")
}

func TestStepsS2(t *testing.T) {
	x, y, one := named("x"), named("y"), number(1)
	end := giving(number(0))
	for text, p := range map[string]api.Prog{
		"return 0;":                                  prog(end),
		"let x = 1; return 0;":                       prog(let("x", one), end),
		"let x ~ flip 1/3; return 0;":                prog(roll("x", flip(1, 3)), end),
		"x = 1; return 0;":                           prog(set("x", one), end),
		"x ~ flip 1/3; return 0;":                    prog(again("x", flip(1, 3)), end),
		"if x { } return 0;":                         prog(choice(x, nil, nil), end),
		"if x { } else { } return 0;":                prog(choice(x, nil, nil), end),
		"if x { x = 1; } return 0;":                  prog(choice(x, []api.Stmt{set("x", one)}, nil), end),
		"if x { } else { x = 1; } return 0;":         prog(choice(x, nil, []api.Stmt{set("x", one)}), end),
		"if x {x=1; y=1;} else {let y=x;} return 0;": prog(choice(x, []api.Stmt{set("x", one), set("y", one)}, []api.Stmt{let("y", x)}), end),
		"if x == 1 { if y { } } else { if x { } else { observe y; } } return 0;": prog(choice(op(api.Eq, x, one), []api.Stmt{choice(y, nil, nil)}, []api.Stmt{choice(x, nil, []api.Stmt{observe(y)})}), end),
		"repeat 0 { } return 0;":                      prog(repeat(0), end),
		"repeat 16 { x = y; repeat 2 { } } return 0;": prog(repeat(16, set("x", y), repeat(2)), end),
		"observe x; return 0;":                        prog(observe(x), end),
		"fn f ( ) { return 1; } return 0;":            {Defs: []api.Def{{Name: "f", Body: []api.Stmt{giving(one)}}}, Body: []api.Stmt{end}},
		"fn f(a){let x=a;x=1;return x;} fn g(a,b,c,d){return f();} observe 1; return 0;": {
			Defs: []api.Def{
				{Name: "f", Params: []string{"a"}, Body: []api.Stmt{let("x", named("a")), set("x", one), giving(x)}},
				{Name: "g", Params: []string{"a", "b", "c", "d"}, Body: []api.Stmt{giving(use("f"))}},
			}, Body: []api.Stmt{observe(one), end}},
	} {
		same(t, text, p)
	}
}

func TestDrawsS2(t *testing.T) {
	for text, d := range map[string]api.Draw{
		"flip 0":     flip(0, 1),
		"flip 1":     flip(1, 1),
		"flip 7":     flip(7, 1),
		"flip 2/4":   flip(1, 2),
		"flip 0 / 9": flip(0, 1),
		"flip 9/3":   flip(3, 1),
		"flip 600000000000000000000/900000000000000000000": flip(2, 3),
		"range 1 6":                   among(1, 6),
		"range -3 -1":                 among(-3, -1),
		"range 5 2":                   among(5, 2),
		"range - 999 999":             among(-999, 999),
		"range 0 -0":                  among(0, 0),
		"pick { 1 : 1 }":              pick([]int{1}, over(1, 1)),
		"pick {-1:4/6,-1:0/3,999:10}": pick([]int{-1, -1, 999}, over(2, 3), over(0, 1), over(10, 1)),
		"pick { 1:1,2:1,3:1,4:1,5:1,6:1,7:1,8:1 }": pick([]int{1, 2, 3, 4, 5, 6, 7, 8}, over(1, 1), over(1, 1), over(1, 1), over(1, 1), over(1, 1), over(1, 1), over(1, 1), over(1, 1)),
	} {
		same(t, "let x ~ "+text+"; return 0;", prog(roll("x", d), giving(number(0))))
		same(t, "x ~ "+text+"; return 0;", prog(again("x", d), giving(number(0))))
	}
}

func TestExpressionsS2(t *testing.T) {
	a, b, c, d := named("a"), named("b"), named("c"), named("d")
	for text, e := range map[string]api.Expr{
		"a or b or c":             op(api.Or, op(api.Or, a, b), c),
		"a or (b or c)":           op(api.Or, a, op(api.Or, b, c)),
		"a and b and c":           op(api.And, op(api.And, a, b), c),
		"a or b and c or d":       op(api.Or, op(api.Or, a, op(api.And, b, c)), d),
		"(a or b) and c":          op(api.And, op(api.Or, a, b), c),
		"not a":                   op(api.Not, a),
		"not not a":               op(api.Not, op(api.Not, a)),
		"not a and b":             op(api.And, op(api.Not, a), b),
		"a and not b or c":        op(api.Or, op(api.And, a, op(api.Not, b)), c),
		"not (a and b)":           op(api.Not, op(api.And, a, b)),
		"not a == b":              op(api.Not, op(api.Eq, a, b)),
		"(not a) == b":            op(api.Eq, op(api.Not, a), b),
		"not a + b < c":           op(api.Not, op(api.Lt, op(api.Add, a, b), c)),
		"a == b and c != d":       op(api.And, op(api.Eq, a, b), op(api.Ne, c, d)),
		"(a == b) == c":           op(api.Eq, op(api.Eq, a, b), c),
		"a <= (b >= c)":           op(api.Le, a, op(api.Ge, b, c)),
		"a + b > c - d":           op(api.Gt, op(api.Add, a, b), op(api.Sub, c, d)),
		"a - b - c + d":           op(api.Add, op(api.Sub, op(api.Sub, a, b), c), d),
		"a - (b - c)":             op(api.Sub, a, op(api.Sub, b, c)),
		"a + b * c - d":           op(api.Sub, op(api.Add, a, op(api.Mul, b, c)), d),
		"a * b / c % d":           op(api.Mod, op(api.Div, op(api.Mul, a, b), c), d),
		"a % (b / c)":             op(api.Mod, a, op(api.Div, b, c)),
		"(a + b) * (c - d)":       op(api.Mul, op(api.Add, a, b), op(api.Sub, c, d)),
		"((((a))))":               a,
		"1-2":                     op(api.Sub, number(1), number(2)),
		"1 - -2":                  op(api.Sub, number(1), number(-2)),
		"-1-2":                    op(api.Sub, number(-1), number(2)),
		"-1*-2":                   op(api.Mul, number(-1), number(-2)),
		"(-1)":                    number(-1),
		"not -1":                  op(api.Not, number(-1)),
		"f()":                     use("f"),
		"f ( a )":                 use("f", a),
		"f(a,b,c,d)":              use("f", a, b, c, d),
		"f(a or b, not c)":        use("f", op(api.Or, a, b), op(api.Not, c)),
		"f(g(), g(h(a))) + f(-1)": op(api.Add, use("f", use("g"), use("g", use("h", a))), use("f", number(-1))),
		"a(a)":                    use("a", a),
	} {
		same(t, "return "+text+";", prog(giving(e)))
		same(t, "let x = "+text+"; return 0;", prog(let("x", e), giving(number(0))))
		same(t, "x = "+text+"; return 0;", prog(set("x", e), giving(number(0))))
		same(t, "observe "+text+"; return 0;", prog(observe(e), giving(number(0))))
		same(t, "if "+text+" { } return 0;", prog(choice(e, nil, nil), giving(number(0))))
	}
}

func TestDrawnS2(t *testing.T) {
	d := die(5)
	for range 600 {
		p := drawing{die: &d, levels: 10}.prog()
		w := loose{die: &d}
		w.prog(p)
		same(t, spread(&d, w.out), p)
	}
}

func TestWordS3(t *testing.T) {
	faults(t, api.ErrWord,
		"return 1; x", "return 1; return 1;", "return 1; ;", "return 1; fn f ( ) { return 1; }", "return 1; @", "return 1 return", "return;", "return );", "return (1;", "return 1);", "return ();",
		"if 1 { return 2; } return 3;", "repeat 2 { return 2; } return 3;", "if 1 { } else { return 1; } return 3;", "if 1 { } else if 2 { } return 3;", "if 1 x = 1; return 3;", "if { } return 1;", "if 1 { } else x = 1; return 1;", "else { } return 1;", "if 1 { } ; return 1;",
		"fn f ( ) { } return 1;", "fn f ( ) { let x = 1; } return 1;", "fn f ( ) { return 1; let x = 1; } return 1;", "fn f ( ) { return 1; return 1; } return 1;", "fn f ( ) { return 1; }; return 1;", "fn f { return 1; } return 1;", "fn ( ) { return 1; } return 1;", "fn f ( a b ) { return 1; } return 1;", "fn f ( a , ) { return 1; } return 1;", "fn f ( , a ) { return 1; } return 1;", "fn f ( 1 ) { return 1; } return 1;", "fn f ( ( a ) ) { return 1; } return 1;", "fn f ( ) { fn g ( ) { return 1; } return 1; } return 1;", "let x = 1; fn f ( ) { return 1; } return 1;",
		"let x; return 1;", "let 1 = 1; return 1;", "let x = ; return 1;", "let x ~ 1; return 1;", "let x = flip 1; return 1;", "let x = 1 return 1;", "let let = 1; return 1;", "x; return 1;", "f(1); return 1;", "x == 1; return 1;", "1 = x; return 1;", "= 1; return 1;", "x = ~ flip 1; return 1;", "; return 1;", "} return 1;", "{ } return 1;", "repeat { } return 1;", "repeat x { } return 1;", "repeat 1 + 1 { } return 1;", "repeat ( 1 ) { } return 1;", "repeat 1 x = 1; return 1;", "observe ; return 1;", "observe x = 1; return 1;",
		"x ~ flip ; return 1;", "x ~ flip x; return 1;", "x ~ flip ( 1/2 ); return 1;", "x ~ flip 1/2/3; return 1;", "x ~ flip 1 2; return 1;", "x ~ flip / 2; return 1;", "x ~ flip 1 + 1; return 1;", "x ~ range 1; return 1;", "x ~ range 1, 2; return 1;", "x ~ range 1 2 3; return 1;", "x ~ range x 2; return 1;", "x ~ range 1 - ; return 1;", "x ~ range 1 / 2 3; return 1;",
		"x ~ pick { }; return 1;", "x ~ pick { 1 }; return 1;", "x ~ pick { 1 : }; return 1;", "x ~ pick { : 1 }; return 1;", "x ~ pick { 1 : 1 , }; return 1;", "x ~ pick { 1 : 1 2 : 1 }; return 1;", "x ~ pick { 1 : 1 ; 2 : 1 }; return 1;", "x ~ pick ( 1 : 1 ); return 1;", "x ~ pick { x : 1 }; return 1;", "x ~ pick { 1 : x }; return 1;", "x ~ pick { 1 = 1 }; return 1;", "x ~ choose 1; return 1;", "x ~ f(1); return 1;", "x ~ ; return 1;",
		"return 1 == 2 == 3;", "return 1 < 2 < 3;", "return 1 == 2 != 3 and 4;", "return 1 + not 2;", "return 1 == not 2;", "return 2 * not 1;", "return - not 1;", "return -x;", "return -(1);", "return - f(1);", "return --1;", "return 1 +;", "return 1 + * 2;", "return * 1;", "return or 1;", "return 1 or or 2;", "return 1 and;", "return 1 not 2;", "return not;", "return not and 1;", "return f(;", "return f(1;", "return f(1 2);", "return f(1,);", "return f(,1);", "return (f)(1);", "return f()();", "return 1(2);", "return f{1};", "return x;x", "return (1,2);", "return { 1 };")
}

func TestShortS3(t *testing.T) {
	faults(t, api.ErrShort, "", " ", "\n\t ", "return", "return 1", "return 1 +", "return (", "return (1", "return (1)", "return not", "return -", "return x", "return f(", "return f(1", "return f(1,", "return f()", "return 1 ==", "let", "let x", "let x =", "let x = 1", "let x = 1;", "let x ~", "let x ~ flip", "let x ~ flip 1", "let x ~ flip 1/", "let x ~ flip 1/2", "let x ~ flip 1/2;", "x", "x =", "x ~", "x ~ range", "x ~ range 1", "x ~ range -", "x ~ range -1 -", "x ~ range -1 1", "x ~ pick", "x ~ pick {", "x ~ pick { 1", "x ~ pick { -", "x ~ pick { 1 :", "x ~ pick { 1 : 1", "x ~ pick { 1 : 1 ,", "x ~ pick { 1 : 1 }", "if", "if 1", "if 1 {", "if 1 { }", "if 1 { } else", "if 1 { } else {", "if 1 { } else { }", "repeat", "repeat 1", "repeat 1 {", "repeat 1 { }", "observe", "observe 1", "observe 1;", "fn", "fn f", "fn f (", "fn f ( a", "fn f ( a ,", "fn f ( a )", "fn f ( ) {", "fn f ( ) { return 1;", "fn f ( ) { return 1; }")
}

// nested is a text in which something stands within as many levels, of one kind, as are told.
func nested(ahead, within, behind string, levels int) string {
	return strings.Repeat(ahead, levels) + within + strings.Repeat(behind, levels)
}

func TestDeepS3(t *testing.T) {
	for _, x := range [][3]string{{"return ", "(", ")"}, {"return ", "not ", ""}, {"return ", "f(", ")"}, {"return ", "f(1, ", ")"}, {"return ", "1 + (", ")"}, {"return ", "(1) * (", ") + (1)"}, {"return not 1 and ", "not ", ""}, {"return f(f(1)) or ", "(", ")"}} {
		parsed(t, x[0]+nested(x[1], "1", x[2], 16)+";")
		faults(t, api.ErrDeep, x[0]+nested(x[1], "1", x[2], 17)+";", x[0]+nested(x[1], "", "", 17), x[0]+nested(x[1], "", "", 17)+"@")
		faults(t, api.ErrShort, x[0]+nested(x[1], "", "", 16))
	}
	for _, x := range [][2]string{{"if 1 {", "}"}, {"repeat 1 {", "}"}, {"if 1 { } else {", "}"}, {"if 1 { if (1) { } } else { let x = f(1); if 1 {", "} }"}} {
		levels := 16
		if strings.HasSuffix(x[1], "} }") {
			levels = 8
		}
		parsed(t, nested(x[0], "", x[1], levels)+" return 1;")
		faults(t, api.ErrDeep, nested(x[0], "if 1 { } ", x[1], levels)+" return 1;", nested(x[0], "repeat 1 { @", "", levels), nested(x[0], "let x = (@", "", levels), nested(x[0], "observe not @", "", levels), nested(x[0], "x = f()", "", levels))
	}
	// of functions, of all kinds within each other, and a pick, whose braces are no block
	parsed(t, "fn f ( a ) { "+nested("if not a {", "x ~ pick { 1 : 1 };", "}", 15)+" return a; } return f(1);")
	parsed(t, "fn f ( a ) { return "+nested("not (f(", "a", "))", 5)+"; } return f(1);")
	faults(t, api.ErrDeep, "fn f ( a ) { "+nested("if a {", "if a {", "}", 15), "fn f ( a ) { return "+nested("not (f(", "not @", "", 5), "fn f ( a ) { return "+nested("(", "", "", 16))
	faults(t, api.ErrShort, "fn f ( a ) { return "+nested("(", "", "", 15))
	// levels end: as many stand one behind the other as will
	parsed(t, "return "+strings.Repeat("not (1) and f((2)) and ", 100)+"1;")
	parsed(t, strings.Repeat("if (1) { } else { } repeat 1 { } ", 100)+"return 1;")
}

func TestLimitsS3(t *testing.T) {
	rest := " @"
	faults(t, api.ErrLimit, "return 1000"+rest, "return -1000"+rest, "return 99999999999999999999999999"+rest, "let x = 1 + 1000"+rest, "x ~ range 1000"+rest, "x ~ range 1 1000"+rest, "x ~ range -1000"+rest, "x ~ range 1 - 1000"+rest, "x ~ pick { 1000"+rest, "x ~ pick { -1000"+rest, "return "+strings.Repeat("9", 500)+rest, "if f(1, 1000"+rest)
	faults(t, api.ErrLimit, "repeat 17"+rest, "repeat 999"+rest, "repeat 18446744073709551617"+rest)
	parsed(t, "repeat 16 { } return 999 + -999;")
	long := "1" + strings.Repeat("0", 399)
	d := api.Draw{Kind: api.Flip, P: over(1, 1)}
	same(t, "x ~ flip "+long+"/"+long+"; return 1;", prog(again("x", d), giving(number(1))))
	parsed(t, "x ~ pick { 1 : "+long+", 2 : 1/"+long+" }; return 1;")
	faults(t, api.ErrLimit, "x ~ flip "+long+"0"+rest, "x ~ flip 1/"+long+"0"+rest, "x ~ pick { 1 : "+long+"0"+rest, "x ~ pick { 1 : 1/"+long+"0"+rest, "x ~ flip "+long+"0/0"+rest)
	faults(t, api.ErrZero, "x ~ flip 1/0"+rest, "x ~ flip 0/0"+rest, "x ~ pick { 1 : 1/2, 2 : 1/0"+rest, "x ~ flip 1/0; return 01;")

	function := "fn f ( a , b , c , d ) { return f(1, 2, 3, 4); } "
	parsed(t, strings.Repeat(function, 8)+"return 1;")
	faults(t, api.ErrLimit, strings.Repeat(function, 8)+"fn"+rest, strings.Repeat(function, 9)+"return 1;")
	faults(t, api.ErrWord, strings.Repeat(function, 8)+"return fn", "fn f ( a , b , c , d @", "return f(1, 2, 3, 4 @", "x ~ pick { 1:1, 2:1, 3:1, 4:1, 5:1, 6:1, 7:1, 8:1 @", "fn f ( a , b , c , d e", "return f(1, 2, 3, 4 5")
	faults(t, api.ErrLimit, "fn f ( a , b , c , d ,"+rest, "fn f ( a , a , a , a , )", "return f(1, 2, 3, 4,"+rest, "return f(1, 2, 3, 4, )", "return f(1, g(1, 2, 3, 4,"+rest, "x ~ pick { 1:1, 2:1, 3:1, 4:1, 5:1, 6:1, 7:1, 8:1,"+rest, "x ~ pick { 1:1, 1:1, 1:1, 1:1, 1:1, 1:1, 1:1, 1:1, }")
	parsed(t, "return f(g(1, 2, 3, 4), g(1, 2, 3, 4), g(1, 2, 3, 4), g(1, 2, 3, 4));")
}

func TestTextLengthS3(t *testing.T) {
	for _, text := range []string{"return 1;", "@", "", "return 1000;", "return 1; x"} {
		_, e := script.Parse(text)
		faults(t, e, text+strings.Repeat(" ", api.MaxText-len(text)), strings.Repeat("\n", api.MaxText-len(text))+text)
		faults(t, api.ErrLimit, text+strings.Repeat(" ", api.MaxText-len(text)+1), strings.Repeat("@", api.MaxText+1)+text)
	}
	parsed(t, "return "+strings.Repeat("1+", 9995)+"1; ")
	faults(t, api.ErrWord, strings.Repeat("x", api.MaxText), strings.Repeat("0", api.MaxText))
	faults(t, api.ErrShort, strings.Repeat("x=1;", api.MaxText/4))
}

// TestFirstFaultS3: what is wrong at a token is told whatever stands behind it, and nothing ahead of it is wrong.
func TestFirstFaultS3(t *testing.T) {
	d := die(11)
	odd := []string{"x", "1", "(", ")", ";", "let", "{", "}", "~", "flip", "+", "not", "@", "01", "1000", "0", "/", ",", "==", "=", "return", "fn", "if", "repeat", "pick", "17", ":", "-", "abcdefghijklm", strings.Repeat("7", 401)}
	for range 120 {
		w := loose{die: &d}
		w.prog(drawing{die: &d, levels: 12}.prog())
		l := w.out
		for k := range len(l) {
			faults(t, api.ErrShort, strings.Join(l[:k], " "))
			faults(t, api.ErrWord, strings.Join(l[:k], " ")+" @ "+odd[d.n(len(odd))])
		}
		for range 10 {
			k := d.n(len(l))
			broken := append(append(append([]string{}, l[:k]...), odd[d.n(len(odd))]), l[k+d.n(2):]...)
			firstFault(t, broken)
		}
	}
}

func firstFault(t *testing.T, l []string) {
	t.Helper()
	_, whole := script.Parse(strings.Join(l, " "))
	for k := range len(l) + 1 {
		text := strings.Join(l[:k], " ")
		if _, e := script.Parse(text); e == api.ErrShort || e == api.OK && k == len(l) {
			continue
		} else if e == api.OK {
			faults(t, api.ErrWord, strings.Join(l, " "))
			return
		} else if e != whole {
			t.Errorf("%q: %d, but of all of it: %d", text, e, whole)
		}
		faults(t, whole, text+" 1", text+" @", text+" ;", text+" 1000", text+" fn")
		return
	}
	if whole != api.ErrShort && whole != api.OK {
		t.Errorf("%q: %d", l, whole)
	}
}

func TestParseP2(t *testing.T) {
	text := "fn f ( a , b ) { return f(a, b); } x ~ pick { 1 : 1/2, 2 : 1/2 }; if f(1, 2) { x = 1; x = 2; } else { x = 3; } return x + 1;"
	p := parsed(t, text)
	want := told(p)
	q := parsed(t, text)
	q.Defs[0].Params[0], q.Defs[0].Body[0].Expr.Args[0].Name, q.Defs[0].Name = "z", "z", "z"
	q.Body[0].Draw.Values[0], q.Body[0].Draw.Weights[1] = 9, api.Frac{}
	q.Body[1].Body[0].N, q.Body[1].Else[0].N, q.Body[1].Expr.Args[1].N, q.Body[2].Expr.Args[0].N = 9, 9, 9, 9
	if told(p) != want || told(parsed(t, text)) != want {
		t.Error("two answers share memory")
	}
	_ = append(q.Body[1].Body[:1], api.Stmt{Kind: 99})
	if k := q.Body[1].Else[0].Kind; k != api.Set {
		t.Error("two lists share memory:", k)
	}
	if fmt.Sprint(q.Body[0].Draw.Values) != "[9 2]" {
		t.Error(q.Body[0].Draw.Values)
	}
}
