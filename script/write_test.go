package script_test

import (
	"math"
	"math/big"
	"slices"
	"strings"
	"testing"

	"augur/api"
	"augur/script"
)

// refuses fails unless Print and Check tell the fault of p, and nothing beside it.
func refuses(t *testing.T, what string, want api.Errno, p api.Prog) {
	t.Helper()
	if s, e := script.Print(p); e != want || s != "" {
		t.Errorf("%s: Print: %q, %d, not %d", what, s, e, want)
	}
	if e := script.Check(p); e != want {
		t.Errorf("%s: Check: %d, not %d", what, e, want)
	}
}

// printed is what is written of a program that is right.
func printed(t *testing.T, p api.Prog) string {
	t.Helper()
	s, e := script.Print(p)
	if e != api.OK {
		t.Fatalf("error %d: %.1000s", e, told(p))
	}
	return s
}

func TestTextsS4(t *testing.T) {
	for text, want := range map[string]string{
		"return 1;": "return 1 ;",
		"fn f(){return -5;}fn g(a,b){let x=a;return x-b;}return f()*g(1,-2);":   "fn f ( ) { return - 5 ; } fn g ( a , b ) { let x = a ; return x - b ; } return f ( ) * g ( 1 , - 2 ) ;",
		"let x~flip 2/4;x~range -1 1;x~pick{1:1/2,-2:1/4,3:1/4};x=-0;return x;": "let x ~ flip 1 / 2 ; x ~ range - 1 1 ; x ~ pick { 1 : 1 / 2 , - 2 : 1 / 4 , 3 : 1 / 4 } ; x = 0 ; return x ;",
		"let x~flip 1;x~flip 4/2;x~flip 0/3;return x;":                          "let x ~ flip 1 ; x ~ flip 2 ; x ~ flip 0 ; return x ;",
		"if 1{}return 1;":                               "if 1 { } return 1 ;",
		"if 1{}else{}return 1;":                         "if 1 { } return 1 ;",
		"if 1{}else{repeat 0{}}return 1;":               "if 1 { } else { repeat 0 { } } return 1 ;",
		"if a{a=1;a=2;}else{if b{}}observe b;return 1;": "if a { a = 1 ; a = 2 ; } else { if b { } } observe b ; return 1 ;",
		"repeat 16{observe not(x);}return 1;":           "repeat 16 { observe not x ; } return 1 ;",
	} {
		if s := printed(t, parsed(t, text)); s != want {
			t.Errorf("%q: %q, not %q", text, s, want)
		}
	}
}

func TestBracketsS4(t *testing.T) {
	for text, want := range map[string]string{
		"(a or b) or c":               "a or b or c",
		"a or (b or c)":               "a or ( b or c )",
		"(a and b) or (c and d)":      "a and b or c and d",
		"(a or b) and (c or d)":       "( a or b ) and ( c or d )",
		"a and (b and c)":             "a and ( b and c )",
		"(not a) and (not b)":         "not a and not b",
		"not (not a)":                 "not not a",
		"not (a == b)":                "not a == b",
		"not (a and b)":               "not ( a and b )",
		"(not a) == (not b)":          "( not a ) == ( not b )",
		"(not a) + 1":                 "( not a ) + 1",
		"1 * (not a)":                 "1 * ( not a )",
		"(a == b) != c":               "( a == b ) != c",
		"a < (b >= c)":                "a < ( b >= c )",
		"(a + b) <= (c * d)":          "a + b <= c * d",
		"(a <= b) > c":                "( a <= b ) > c",
		"(a == b) and (c > d)":        "a == b and c > d",
		"(a == b) + c":                "( a == b ) + c",
		"(a - b) - c":                 "a - b - c",
		"a - (b - c)":                 "a - ( b - c )",
		"a + (b + c)":                 "a + ( b + c )",
		"(a * b) + (c / d)":           "a * b + c / d",
		"(a + b) * (c - d)":           "( a + b ) * ( c - d )",
		"(a * b) / c":                 "a * b / c",
		"a % (b * c)":                 "a % ( b * c )",
		"1 - (-2)":                    "1 - - 2",
		"(-1) * (-2)":                 "- 1 * - 2",
		"not (-1)":                    "not - 1",
		"f((a or b), (1), (not (a)))": "f ( a or b , 1 , not a )",
		"(f(1)) % (((g())))":          "f ( 1 ) % g ( )",
	} {
		if s := printed(t, parsed(t, "return "+text+";")); s != "return "+want+" ;" {
			t.Errorf("%q: %q, not %q", text, s, want)
		}
		if s := printed(t, parsed(t, "if "+text+"{}return 1;")); s != "if "+want+" { } return 1 ;" {
			t.Errorf("%q: %q, not %q", text, s, want)
		}
	}
}

// pairs is the places of brackets that stand round expressions alone: no name is ahead of them.
func pairs(l []string) (at [][2]int) {
	var open []int
	for i, token := range l {
		if token == "(" {
			open = append(open, i)
		}
		if token == ")" {
			begin := open[len(open)-1]
			open = open[:len(open)-1]
			if ahead := l[begin-1]; !(ahead[0] >= 'a' && ahead[0] <= 'z') || slices.Contains([]string{"return", "observe", "if", "or", "and", "not"}, ahead) {
				at = append(at, [2]int{begin, i})
			}
		}
	}
	return at
}

// TestAgainS4: what is printed is read as the same; one blank stands between tokens; without a pair of brackets it would be something else.
func TestAgainS4(t *testing.T) {
	d := die(17)
	tried := 0
	for range 500 {
		p := drawing{die: &d, levels: 11}.prog()
		before := told(p)
		s := printed(t, p)
		if told(p) != before {
			t.Fatal("P2: the program was changed")
		}
		same(t, s, p)
		l := strings.Split(s, " ")
		if slices.ContainsFunc(l, func(token string) bool { return token == "" || strings.ContainsAny(token, "\n\t") }) || strings.Contains(s, "else { }") {
			t.Errorf("%q", s)
		}
		w := loose{die: &d}
		w.prog(p)
		if again := printed(t, parsed(t, spread(&d, w.out))); again != s {
			t.Errorf("%q, not %q", again, s)
		}
		for _, at := range pairs(l) {
			without := slices.Concat(l[:at[0]], l[at[0]+1:at[1]], l[at[1]+1:])
			if q, e := script.Parse(strings.Join(without, " ")); e == api.OK && told(q) == before {
				t.Errorf("brackets are not needed: %q", s)
			}
			tried++
		}
	}
	if tried < 100 {
		t.Error("few brackets:", tried)
	}
}

// spoil changes one field of one step, of itself or of those within it.
func spoil(d *die, l []api.Stmt) {
	s := &l[d.n(len(l))]
	for _, within := range [][]api.Stmt{s.Body, s.Else} {
		if len(within) > 0 && d.n(2) == 0 {
			spoil(d, within)
			return
		}
	}
	e := &s.Expr
	for len(e.Args) > 0 && d.n(2) == 0 {
		e = &e.Args[d.n(len(e.Args))]
	}
	n := []int{-1000, -1, 0, 1, 2, 3, 5, 16, 999, 1000}[d.n(10)]
	name := []string{"", "x", "fn", "A", "abcdefghijklm"}[d.n(5)]
	part := []api.Frac{{}, over(0, 1), over(1, 2), over(3, 1), over(-1, 2), {Num: "\x02", Den: "\x02"}, {Num: "\x00\x01", Den: "\x02"}}[d.n(7)]
	changes := []func(){
		func() { s.Kind = n }, func() { s.Name = name }, func() { s.N = n },
		func() { e.Op = n }, func() { e.N = n }, func() { e.Name = name }, func() { e.Args = append(e.Args, number(n)) }, func() { e.Args = nil },
		func() { s.Draw.Kind = n }, func() { s.Draw.P = part }, func() { s.Draw.Lo = n }, func() { s.Draw.Hi = n },
		func() { s.Draw.Weights = append(s.Draw.Weights, part) }, func() { s.Draw.Values = append(s.Draw.Values, n) },
		func() { s.Draw.Weights, s.Draw.Values = append(s.Draw.Weights, part), append(s.Draw.Values, n) }, func() { s.Draw = api.Draw{} },
		func() { s.Body = append(s.Body, giving(number(n))) }, func() { s.Else = append(s.Else, set("x", number(n))) }, func() { s.Else = []api.Stmt{} },
	}
	changes[d.n(len(changes))]()
}

// TestSpoiltS4: what is printed at all is read as the same, whatever it was.
func TestSpoiltS4(t *testing.T) {
	d := die(29)
	seen := map[api.Errno]int{}
	for range 6000 {
		p := copied(drawing{die: &d, levels: 12}.prog())
		for range 1 + d.n(2) {
			spoil(&d, p.Body)
		}
		s, e := script.Print(p)
		if seen[e]++; e == api.OK {
			same(t, s, p)
		} else if s != "" || script.Check(p) != e {
			t.Errorf("%d, but %q and %d", e, s, script.Check(p))
		}
	}
	if seen[api.OK] < 500 || seen[api.ErrForm] < 500 {
		t.Error(seen)
	}
}

func TestNamesS4(t *testing.T) {
	end := giving(number(1))
	for _, name := range []string{"", "A", "_", "1", "a b", " a", "a ", "a\n", "é", "aé", "a-", "abcdefghijklm", strings.Repeat("a", 30000), "fn", "let", "if", "else", "repeat", "observe", "return", "flip", "range", "pick", "or", "and", "not", "(", "a\x00"} {
		for _, p := range []api.Prog{prog(let(name, number(1)), end), prog(roll(name, flip(1, 2)), end), prog(set(name, number(1)), end), prog(again(name, flip(1, 2)), end), prog(giving(named(name))), prog(giving(use(name))), prog(giving(use("f", named(name)))),
			{Defs: []api.Def{{Name: name, Body: []api.Stmt{end}}}, Body: []api.Stmt{end}}, {Defs: []api.Def{{Name: "f", Params: []string{"a", name}, Body: []api.Stmt{end}}}, Body: []api.Stmt{end}}} {
			refuses(t, name, api.ErrForm, p)
		}
	}
	if s := printed(t, prog(giving(named("abcdefghijkl")))); s != "return abcdefghijkl ;" {
		t.Error(s)
	}
}

// TestFieldsS4: of each kind of step each field, in turn, has something that it should not have, or has nothing.
func TestFieldsS4(t *testing.T) {
	one, end := number(1), giving(number(1))
	kinds := []api.Stmt{let("x", one), roll("x", flip(1, 2)), set("x", one), again("x", flip(1, 2)), choice(one, []api.Stmt{observe(one)}, []api.Stmt{observe(one)}), repeat(3, observe(one)), observe(one), giving(one)}
	may := map[string]string{"name": "1234", "number": "6", "expr": "13578", "draw": "24", "body": "56", "else": "5"}
	wrong := map[string][]func(s *api.Stmt){
		"name":   {func(s *api.Stmt) { s.Name = "y" }},
		"number": {func(s *api.Stmt) { s.N = 2 }},
		"expr":   {func(s *api.Stmt) { s.Expr = one }, func(s *api.Stmt) { s.Expr.Op = api.Number }, func(s *api.Stmt) { s.Expr.N = 1 }, func(s *api.Stmt) { s.Expr.Name = "x" }, func(s *api.Stmt) { s.Expr.Args = []api.Expr{{}} }},
		"draw": {func(s *api.Stmt) { s.Draw = among(1, 2) }, func(s *api.Stmt) { s.Draw.Kind = api.Flip }, func(s *api.Stmt) { s.Draw.P = over(0, 1) }, func(s *api.Stmt) { s.Draw.P.Neg = true }, func(s *api.Stmt) { s.Draw.P.Num = "\x00" }, func(s *api.Stmt) { s.Draw.Lo = 1 }, func(s *api.Stmt) { s.Draw.Hi = -1 },
			func(s *api.Stmt) { s.Draw.Weights = []api.Frac{{}} }, func(s *api.Stmt) { s.Draw.Values = []int{0} }},
		"body": {func(s *api.Stmt) { s.Body = []api.Stmt{observe(one)} }},
		"else": {func(s *api.Stmt) { s.Else = []api.Stmt{observe(one)} }},
	}
	whole := func(s api.Stmt) api.Prog {
		if s.Kind == api.Return {
			return prog(s)
		}
		return prog(s, end)
	}
	for i, s := range kinds {
		printed(t, whole(s))
		empty := s
		if !strings.ContainsRune("56", rune('1'+i)) {
			empty.Body = []api.Stmt{}
		}
		if i != 4 {
			empty.Else = []api.Stmt{}
		}
		printed(t, whole(empty))
		for field, l := range wrong {
			for j, spoil := range l {
				q := s
				spoil(&q)
				if !strings.ContainsRune(may[field], rune('1'+i)) {
					refuses(t, field+" of "+toldSteps([]api.Stmt{s}), api.ErrForm, whole(q))
				} else if j == 0 {
					printed(t, whole(q))
				}
			}
		}
		none := []api.Stmt{s, s, s}
		none[0].Name, none[1].Expr, none[2].Draw = "", api.Expr{}, api.Draw{}
		for j, field := range []string{"name", "expr", "draw"} {
			if strings.ContainsRune(may[field], rune('1'+i)) {
				refuses(t, "no "+field+" of "+toldSteps([]api.Stmt{s}), api.ErrForm, whole(none[j]))
			}
		}
	}
	if s := printed(t, prog(choice(one, nil, []api.Stmt{}), end)); s != "if 1 { } return 1 ;" {
		t.Error(s)
	}
}

func TestKindsS4(t *testing.T) {
	end := giving(number(1))
	for _, k := range []int{0, -1, 9, 100, math.MinInt, math.MaxInt} {
		s := let("x", number(1))
		s.Kind = k
		refuses(t, "kind", api.ErrForm, prog(s, end))
		refuses(t, "kind of nothing", api.ErrForm, prog(api.Stmt{Kind: k}, end))
		refuses(t, "kind within", api.ErrForm, prog(choice(number(1), nil, []api.Stmt{s}), end))
	}
	for _, k := range []int{0, -1, 18, 100, math.MinInt, math.MaxInt} {
		for n := range 4 {
			e := op(k, slices.Repeat([]api.Expr{number(1)}, n)...)
			refuses(t, "operator", api.ErrForm, prog(giving(e)))
			refuses(t, "operator within", api.ErrForm, prog(giving(op(api.Add, number(1), e))))
		}
	}
	for _, k := range []int{0, -1, 4, 100, math.MinInt, math.MaxInt} {
		for _, d := range []api.Draw{flip(1, 2), among(1, 2), pick([]int{1}, over(1, 1)), {}} {
			d.Kind = k
			refuses(t, "draw", api.ErrForm, prog(roll("x", d), end))
		}
	}
}

func TestPartsS4(t *testing.T) {
	one := number(1)
	for o := api.Or; o <= api.Mod; o++ {
		for n := range 5 {
			e := op(o, slices.Repeat([]api.Expr{one}, n)...)
			if n == 2 && o != api.Not || n == 1 && o == api.Not {
				printed(t, prog(giving(e)))
				named, numbered, spoilt := e, e, e
				named.Name, numbered.N = "x", 1
				spoilt.Args = slices.Clone(e.Args)
				spoilt.Args[n-1] = api.Expr{}
				refuses(t, "name of an operator", api.ErrForm, prog(giving(named)))
				refuses(t, "number of an operator", api.ErrForm, prog(giving(numbered)))
				refuses(t, "part of an operator", api.ErrForm, prog(giving(spoilt)))
			} else {
				refuses(t, "parts of an operator", api.ErrForm, prog(giving(e)))
			}
		}
	}
	refuses(t, "name of a number", api.ErrForm, prog(giving(api.Expr{Op: api.Number, N: 1, Name: "x"})))
	refuses(t, "part of a number", api.ErrForm, prog(giving(api.Expr{Op: api.Number, N: 1, Args: []api.Expr{one}})))
	refuses(t, "number of a name", api.ErrForm, prog(giving(api.Expr{Op: api.Name, N: 1, Name: "x"})))
	refuses(t, "part of a name", api.ErrForm, prog(giving(api.Expr{Op: api.Name, Name: "x", Args: []api.Expr{one}})))
	refuses(t, "number of a use", api.ErrForm, prog(giving(api.Expr{Op: api.Use, N: 1, Name: "x"})))
	refuses(t, "part of a use", api.ErrForm, prog(giving(use("f", one, api.Expr{}))))
	refuses(t, "no expression", api.ErrForm, prog(giving(api.Expr{})))
	printed(t, prog(giving(api.Expr{Op: api.Number, Args: []api.Expr{}})))
	for _, n := range []int{1000, -1000, math.MaxInt, math.MinInt} {
		refuses(t, "number", api.ErrForm, prog(giving(number(n))))
	}
	if s := printed(t, prog(giving(op(api.Sub, number(999), number(-999))))); s != "return 999 - - 999 ;" {
		t.Error(s)
	}
	for _, n := range []int{-1, -16, math.MinInt} {
		refuses(t, "repeat", api.ErrForm, prog(repeat(n), giving(one)))
	}
}

func TestDrawsS4(t *testing.T) {
	half := over(1, 2)
	nought := api.Frac{Den: "\x01"}
	wrong := []api.Draw{
		{Kind: api.Flip}, {Kind: api.Flip, P: api.Frac{Neg: true, Num: "\x01", Den: "\x02"}}, {Kind: api.Flip, P: api.Frac{Num: "\x02", Den: "\x04"}}, {Kind: api.Flip, P: api.Frac{Num: "\x00\x01", Den: "\x02"}}, {Kind: api.Flip, P: api.Frac{Num: "\x01", Den: "\x00\x02"}}, {Kind: api.Flip, P: api.Frac{Num: "\x01"}}, {Kind: api.Flip, P: api.Frac{Num: "\x01", Den: "\x00"}}, {Kind: api.Flip, P: api.Frac{Den: "\x02"}}, {Kind: api.Flip, P: api.Frac{Neg: true, Den: "\x01"}}, {Kind: api.Flip, P: api.Frac{Num: "\x00", Den: "\x01"}},
		{Kind: api.Flip, P: half, Lo: 1}, {Kind: api.Flip, P: half, Hi: 1}, {Kind: api.Flip, P: half, Weights: []api.Frac{half}}, {Kind: api.Flip, P: half, Values: []int{1}}, {Kind: api.Flip, P: half, Weights: []api.Frac{half}, Values: []int{1}},
		{Kind: api.Range, P: nought, Lo: 1, Hi: 2}, {Kind: api.Range, P: half, Lo: 1, Hi: 2}, {Kind: api.Range, P: api.Frac{Neg: true}}, among(-1000, 1), among(1, 1000), among(1000, 1), among(1, -1000), among(math.MinInt, math.MaxInt), among(math.MaxInt, math.MinInt), {Kind: api.Range, Weights: []api.Frac{half}}, {Kind: api.Range, Values: []int{0}},
		{Kind: api.Pick}, pick([]int{1}), pick(nil, half), pick([]int{1, 2}, half), pick([]int{1}, half, half), pick([]int{1000}, half), pick([]int{1, -1000}, half, half), pick([]int{1}, api.Frac{}), pick([]int{1, 2}, half, api.Frac{Num: "\x02", Den: "\x04"}), pick([]int{1}, api.Frac{Neg: true, Num: "\x01", Den: "\x02"}),
		{Kind: api.Pick, P: nought, Values: []int{1}, Weights: []api.Frac{half}}, {Kind: api.Pick, Lo: 1, Values: []int{1}, Weights: []api.Frac{half}}, {Kind: api.Pick, Hi: 1, Values: []int{1}, Weights: []api.Frac{half}},
	}
	for _, d := range wrong {
		refuses(t, toldDraw(d), api.ErrForm, prog(roll("x", d), giving(number(1))))
		refuses(t, toldDraw(d), api.ErrForm, prog(repeat(2, again("x", d)), giving(number(1))))
	}
	for d, want := range map[*api.Draw]string{
		{Kind: api.Flip, P: nought}:                                                    "flip 0",
		{Kind: api.Flip, P: over(7, 3)}:                                                "flip 7 / 3",
		{Kind: api.Range, Lo: 999, Hi: -999}:                                           "range 999 - 999",
		{Kind: api.Range, Weights: []api.Frac{}}:                                       "range 0 0",
		{Kind: api.Pick, Values: []int{0, 0}, Weights: []api.Frac{nought, over(5, 1)}}: "pick { 0 : 0 , 0 : 5 }",
	} {
		if s := printed(t, prog(roll("x", *d), giving(number(1)))); s != "let x ~ "+want+" ; return 1 ;" {
			t.Errorf("%q, not %q", s, want)
		}
	}
}

func TestReturnsS4(t *testing.T) {
	one, end := number(1), giving(number(1))
	f := func(l ...api.Stmt) api.Prog {
		return api.Prog{Defs: []api.Def{{Name: "f", Body: l}}, Body: []api.Stmt{end}}
	}
	for what, p := range map[string]api.Prog{
		"nothing": {}, "no steps": prog([]api.Stmt{}...), "no return": prog(let("x", one)), "two returns": prog(end, end), "a return ahead": prog(end, let("x", one)), "a return in a block": prog(choice(one, []api.Stmt{end}, nil), end), "a return in an else": prog(choice(one, nil, []api.Stmt{end}), end), "a return in a repeat": prog(repeat(2, let("x", one), end), end),
		"a block at the end":       prog(choice(one, []api.Stmt{end}, []api.Stmt{end})),
		"a function without steps": f(), "a function without return": f(let("x", one)), "a function of two returns": f(end, end), "a function with a return ahead": f(end, observe(one)), "a function with a return in a block": f(repeat(1, end), end), "functions alone": {Defs: []api.Def{{Name: "f", Body: []api.Stmt{end}}}},
	} {
		refuses(t, what, api.ErrForm, p)
	}
	printed(t, f(let("x", one), end))
}

// digits is ten to the k, or a number beside it.
func digits(k, more int64) api.Nat {
	n := new(big.Int).Exp(big.NewInt(10), big.NewInt(k), nil)
	return api.Nat(n.Add(n, big.NewInt(more)).Bytes())
}

func TestLimitsS4(t *testing.T) {
	one, end := number(1), giving(number(1))
	def := api.Def{Name: "f", Body: []api.Stmt{end}}
	eight := api.Prog{Defs: slices.Repeat([]api.Def{def}, 8), Body: []api.Stmt{end}}
	nine := api.Prog{Defs: slices.Repeat([]api.Def{def}, 9), Body: []api.Stmt{end}}
	with := func(names ...string) api.Prog {
		return api.Prog{Defs: []api.Def{{Name: "f", Params: names, Body: []api.Stmt{end}}}, Body: []api.Stmt{end}}
	}
	picks := func(n int) api.Prog {
		return prog(roll("x", pick(slices.Repeat([]int{1}, n), slices.Repeat([]api.Frac{over(1, 8)}, n)...)), end)
	}
	flips := func(num, den api.Nat) api.Prog {
		return prog(roll("x", api.Draw{Kind: api.Flip, P: api.Frac{Num: num, Den: den}}), end)
	}
	args := func(n int) api.Prog { return prog(giving(use("f", slices.Repeat([]api.Expr{one}, n)...))) }
	for _, p := range []api.Prog{eight, with("a", "b", "c", "d"), picks(8), args(4), prog(repeat(16), end), flips(digits(400, -1), "\x01"), flips("\x01", digits(400, -1)), flips(digits(399, 0), digits(400, -1))} {
		same(t, printed(t, p), p)
	}
	deep := giving(nots(one, 17))
	for what, p := range map[string]api.Prog{
		"functions": nine, "parameters": with("a", "b", "c", "d", "e"), "values of a pick": picks(9), "arguments": args(5), "arguments within": prog(giving(op(api.Not, use("g", args(5).Body[0].Expr)))), "times": prog(repeat(17), end), "very many times": prog(repeat(math.MaxInt), end),
		"digits above": flips(digits(400, 0), "\x01"), "digits below": flips("\x01", digits(400, 0)), "digits of both": flips(digits(400, 0), digits(400, 1)), "very many digits": flips(digits(5000, 1), digits(5000, 0)), "digits of a pick": prog(again("x", pick([]int{1, 2}, over(1, 2), api.Frac{Num: digits(400, 0), Den: "\x01"})), end),
		"times, and too deep": prog(repeat(17), deep), "too deep, and times": prog(observe(deep.Expr), repeat(17), end),
	} {
		refuses(t, what, api.ErrLimit, p)
	}
	spoilt := copied(nine)
	spoilt.Body[0].Name = "x"
	refuses(t, "too many, and not of the form", api.ErrForm, spoilt)
	refuses(t, "too deep, and not of the form", api.ErrForm, prog(deep, deep))
	refuses(t, "digits, and not in lowest terms", api.ErrForm, flips(digits(400, 0), digits(400, 0)))
}

func nots(e api.Expr, levels int) api.Expr {
	for range levels {
		e = op(api.Not, e)
	}
	return e
}

// sized is a program whose text has so many bytes.
func sized(bytes int) api.Prog {
	var l []api.Stmt
	for bytes -= len("return 1 ;"); bytes >= 2*len("x = 1 ; "); bytes -= len("x = 1 ; ") {
		l = append(l, set("x", number(1)))
	}
	l = append(l, set(strings.Repeat("x", bytes-len(" = 1 ; ")), number(1)))
	return prog(append(l, giving(number(1)))...)
}

func TestTextLengthS4(t *testing.T) {
	for _, n := range []int{30, 1000, api.MaxText - 3, api.MaxText - 1, api.MaxText} {
		if s := printed(t, sized(n)); len(s) != n {
			t.Error(len(s), n)
		}
	}
	same(t, printed(t, sized(api.MaxText)), sized(api.MaxText))
	for _, n := range []int{api.MaxText + 1, api.MaxText + 2, 2 * api.MaxText, 1000000} {
		refuses(t, "text", api.ErrLimit, sized(n))
	}
	refuses(t, "a text that is short without blanks", api.ErrLimit, parsed(t, "return "+strings.Repeat("1+", 9000)+"1;"))
	long := sized(api.MaxText + 1)
	long.Body[0].Expr = nots(number(1), 17)
	refuses(t, "a long text, too deep", api.ErrLimit, long)
	long.Body[0].N = 1
	refuses(t, "a long text, not of the form", api.ErrForm, long)
	one := number(1)
	for range 12000 {
		one = op(api.Add, one, number(1))
	}
	refuses(t, "a long sum", api.ErrLimit, prog(giving(one)))
	refuses(t, "a great nest", api.ErrLimit, prog(giving(nots(number(1), 1<<15))))
	steps := []api.Stmt{observe(one)}
	for range 1 << 15 {
		steps = []api.Stmt{choice(number(1), nil, steps)}
	}
	refuses(t, "a great nest of steps", api.ErrLimit, prog(append(steps, giving(number(1)))...))
}

func TestDeepS4(t *testing.T) {
	one, end := number(1), giving(number(1))
	wraps := map[string]func(e api.Expr) api.Expr{
		"not":         func(e api.Expr) api.Expr { return op(api.Not, e) },
		"use":         func(e api.Expr) api.Expr { return use("f", one, e) },
		"right of -":  func(e api.Expr) api.Expr { return op(api.Sub, one, e) },
		"right of or": func(e api.Expr) api.Expr { return op(api.Or, one, e) },
		"left of ==":  func(e api.Expr) api.Expr { return op(api.Eq, e, one) },
	}
	for what, wrap := range wraps {
		e, levels := wrap(one), 1
		if what != "not" && what != "use" {
			levels = 0 // the innermost needs no brackets
		}
		for ; levels < 16; levels++ {
			e = wrap(e)
		}
		same(t, printed(t, prog(giving(e))), prog(giving(e)))
		refuses(t, what, api.ErrDeep, prog(giving(wrap(e))))
		refuses(t, what+" in a block", api.ErrDeep, prog(repeat(1, observe(e)), end))
		refuses(t, what+" in a function", api.ErrDeep, api.Prog{Defs: []api.Def{{Name: "f", Body: []api.Stmt{giving(e)}}}, Body: []api.Stmt{end}})
	}
	// from the left nothing is nested, and use without arguments is a level too
	left := one
	for range 100 {
		left = op(api.Add, left, one)
	}
	printed(t, prog(giving(left)))
	printed(t, prog(giving(nots(op(api.And, use("f"), one), 14))))
	refuses(t, "a use in brackets", api.ErrDeep, prog(giving(nots(op(api.And, use("f"), one), 15))))
	printed(t, prog(giving(nots(use("f"), 15))))
	refuses(t, "a use of nothing", api.ErrDeep, prog(giving(nots(use("f"), 16))))
	for what, wrap := range map[string]func(l []api.Stmt) api.Stmt{
		"if":     func(l []api.Stmt) api.Stmt { return choice(one, l, nil) },
		"else":   func(l []api.Stmt) api.Stmt { return choice(one, nil, append([]api.Stmt{observe(one)}, l...)) },
		"repeat": func(l []api.Stmt) api.Stmt { return repeat(1, l...) },
	} {
		var l []api.Stmt
		for range 16 {
			l = []api.Stmt{wrap(l)}
		}
		p := prog(append(l, end)...)
		same(t, printed(t, p), p)
		refuses(t, what, api.ErrDeep, prog(wrap(l), end))
		refuses(t, what+" in a function", api.ErrDeep, api.Prog{Defs: []api.Def{{Name: "f", Body: append(l, end)}}, Body: []api.Stmt{end}})
	}
	refuses(t, "deep ahead of what is not", api.ErrDeep, prog(observe(nots(one, 17)), observe(nots(one, 2)), end))
	// a block of else that is empty is not there
	var l []api.Stmt
	for range 16 {
		l = []api.Stmt{choice(one, l, []api.Stmt{})}
	}
	printed(t, prog(append(l, end)...))
}
